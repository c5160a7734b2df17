/-
  The document's mark: the nodes of a function, in a row of marks.
  The document's table: bit, half.
  The document's node: looked for in the row, a new one if it is not there.
  dump: read, Read: the function of bytes.
-/
import Derived.Test.YtffngpdngjfcfaaDWriteAnd
import Derived.Test.YtffngpdngjfcfaaBCheckAnd
import Derived.Test.YtffngpdngjfcfaaBCubesAAnd
namespace Go.Proofs.Ytffngpdngjfcfaa
open Go.RowKit Go.Maps
open Bd (Nd ff tt)

theorem read_idle (p q r s : Value) (w : World) :
    CallsD Try.prog 72 #[p, q, r, s] .returning w fun e u' w' => e = .returned (.tuple #[]) ∧ u' = .returning ∧ w' = w := by
  refine callsD_of_wpS Try.func72 rfl fun c₀ cs hu => ?_
  apply wpS_seq
  apply wpS_region
  simp [wpOpsS, go_sem, recoverD, hu, Try.ntmps72, Exit.thenS]
  refine wpS_cond (t := false) (by simp [Act.eval, Array.replicate]) ?_
  simp only [Bool.false_eq_true, if_false]
  refine wpS_of_wp (wp_skip ?_)
  cases c₀
  simp_all [bodyPostS, results, Try.results72]

/-- read's own blocks: its results; the world is the old one but for these, and the reader. -/
structure RdAt (w W : World) : Prop where
  b0 : W.heap[w.heap.size]? = some (.cells #[.int .i64 0] 25 (0, 0))
  b1 : W.heap[w.heap.size + 1]? = some (.cells #[.int .i64 0] 3 (0, 0))
  b2 : W.heap[w.heap.size + 1 + 1]? = some (.cells #[.int .i64 0] 30 (0, 0))
  below : Below w.heap.size w W
  size : w.heap.size + 4 ≤ W.heap.size
theorem RdAt.just {w W W' : World} (h : RdAt w W) (hj : Just (w.heap.size + 1 + 1 + 1) W W') : RdAt w W' :=
  ⟨(hj.block _ (by omega)).trans h.b0, (hj.block _ (by omega)).trans h.b1, (hj.block _ (by omega)).trans h.b2, ⟨hj.os.trans h.below.os, hj.tape.trans h.below.tape, hj.output.trans h.below.output, by rw [hj.size]; exact h.below.size, fun k hk => (hj.block k (by omega)).trans (h.below.block k hk)⟩, by rw [hj.size]; exact h.size⟩
theorem RdAt.touch {w W W' : World} (h : RdAt w W) (hj : Touch (fun k => k = w.heap.size + 1 + 1 + 1) (fun k => k = w.heap.size + 1 + 1 + 1) W W') : RdAt w W' := by
  have hs := h.size
  exact ⟨(hj.block _ (by omega) (by omega)).trans h.b0, (hj.block _ (by omega) (by omega)).trans h.b1, (hj.block _ (by omega) (by omega)).trans h.b2, ⟨hj.os.trans h.below.os, hj.tape.trans h.below.tape, hj.output.trans h.below.output, Nat.le_trans h.below.size hj.size, fun k hk => (hj.block k (by omega) (by omega)).trans (h.below.block k hk)⟩, Nat.le_trans h.size hj.size⟩
theorem RdAt.cells {w W : World} (h : RdAt w W) : (W.cell? ⟨w.heap.size, 0, none⟩ = some (.int .i64 0) ∧ W.cell? ⟨w.heap.size + 1, 0, none⟩ = some (.int .i64 0) ∧ W.cell? ⟨w.heap.size + 1 + 1, 0, none⟩ = some (.int .i64 0)) ∧ W.frozen? ⟨w.heap.size, 0, none⟩ = false ∧ W.frozen? ⟨w.heap.size + 1, 0, none⟩ = false ∧ W.frozen? ⟨w.heap.size + 1 + 1, 0, none⟩ = false :=
  ⟨⟨by rw [cell_at h.b0]; rfl, by rw [cell_at h.b1]; rfl, by rw [cell_at h.b2]; rfl⟩, not_frozen h.b0, not_frozen h.b1, not_frozen h.b2⟩

theorem set_again {w : World} {b : Nat} {u : Value} (h : w.cell? ⟨b, 0, none⟩ = some u) (v : Value) : (w.setCell ⟨b, 0, none⟩ v).cell? ⟨b, 0, none⟩ = some v := by
  simp [go_sem, h]
theorem none_refl (X : Nat → Prop) (w : World) : Touch X (fun _ => False) w w := ⟨fun _ h => h.elim, rfl, rfl, rfl, Nat.le_refl _, fun _ _ _ => rfl⟩
theorem none_set {X : Nat → Prop} {w w' : World} (h : Touch X (fun _ => False) w w') {b i : Nat} (hb : X b) (u : Value) : Touch X (fun _ => False) w (w'.setCell ⟨b, i, none⟩ u) :=
  ⟨fun _ h => h.elim, h.os, h.tape, h.output, by have := h.size; simpa using this, fun k hk hn => (set_other u (fun e => hn (by rw [show k = b from e]; exact hb))).trans (h.block k hk hn)⟩
theorem none_drew {X : Nat → Prop} {w w' : World} (h : Touch X (fun _ => False) w w') (n : Nat) : Touch X (fun _ => False) w (w'.drewN n) := ⟨h.own, h.os, h.tape, h.output, h.size, h.block⟩
theorem rd_start (w : World) {g n cap : Nat} {l : List UInt8} (hn : n = l.length) (hrow : w.ownsRow 0 5 1 (.slice (some ⟨g, 0, none⟩) n cap) n (byts l)) (hcap : l.length ≤ 100000000000) :
    RdAt w ((((w.alloc (.cells #[.int .i64 0] 25)).alloc (.cells #[.int .i64 0] 3)).alloc (.cells #[.int .i64 0] 30)).alloc (.cells #[.slice (some ⟨g, 0, none⟩) n cap, .int .i64 0] 125)) ∧
    LeftAt ((((w.alloc (.cells #[.int .i64 0] 25)).alloc (.cells #[.int .i64 0] 3)).alloc (.cells #[.int .i64 0] 30)).alloc (.cells #[.slice (some ⟨g, 0, none⟩) n cap, .int .i64 0] 125)) (w.heap.size + 1 + 1 + 1) g l := by
  generalize ha : Obj.cells #[.int .i64 0] 25 = oa
  generalize hb : Obj.cells #[.int .i64 0] 3 = ob
  generalize hc : Obj.cells #[.int .i64 0] 30 = oc
  generalize hd : Obj.cells #[.slice (some ⟨g, 0, none⟩) n cap, .int .i64 0] 125 = od
  have e1 : (w.alloc oa).heap.size = w.heap.size + 1 := by simp
  have e2 : ((w.alloc oa).alloc ob).heap.size = w.heap.size + 1 + 1 := by simp
  have e3 : (((w.alloc oa).alloc ob).alloc oc).heap.size = w.heap.size + 1 + 1 + 1 := by simp
  have e4 : ((((w.alloc oa).alloc ob).alloc oc).alloc od).heap.size = w.heap.size + 1 + 1 + 1 + 1 := by simp
  have B : Below w.heap.size w ((((w.alloc oa).alloc ob).alloc oc).alloc od) := ((((Below.refl _ _).alloc (Nat.le_refl _) _).alloc (by omega) _).alloc (by omega) _).alloc (by omega) _
  have hg : g < w.heap.size := (hrow.lt g rfl).2
  refine ⟨⟨?_, ?_, ?_, B, by omega⟩, 0, cap, ?_, ?_, ⟨?_, hcap⟩, by omega, by omega, fun i c hi => ?_⟩
  · rw [heap_alloc_old _ _ (by omega), heap_alloc_old _ _ (by omega), heap_alloc_old _ _ (by omega), heap_alloc_new, ha]
  · rw [heap_alloc_old _ _ (by omega), heap_alloc_old _ _ (by omega), ← e1, heap_alloc_new, hb]
  · rw [heap_alloc_old _ _ (by omega), ← e2, heap_alloc_new, hc]
  · rw [← e3, heap_alloc_new, ← hd, hn]
  · rcases hrow.2 with ⟨h, _⟩ | ⟨g', cp, cur, h, _, _, h5, _⟩
    · cases h
    · cases h; omega
  · rcases hrow.2 with ⟨h, _⟩ | ⟨g', cp, cur, h, _, _, _, h6, _⟩
    · cases h
    · cases h; unfold maxLen at h6; omega
  · rw [B.cell (p := ⟨g, 0 + i, none⟩) hg, Nat.zero_add, hrow.cellAt i (by have := Bd.getElem?_lt hi; omega)]
    unfold byts
    rw [List.getElem?_map, hi]; rfl

set_option maxRecDepth 2000 in
set_option maxHeartbeats 4000000 in
theorem read_end {w : World} {y : Lay} {s : St} (hT : Tab w y s) (g cap r : Nat) (hr : r ≤ 1) (hrow : w.ownsRow 0 5 1 (.slice (some ⟨g, 0, none⟩) 6 cap) 6 (byts (headB s.bits 0 ++ [UInt8.ofNat r]))) :
    Calls Try.prog 38 #[.pointer (some ⟨y.tb, 0, none⟩), .slice (some ⟨g, 0, none⟩) 6 cap] w fun e w' => e = .returned (.tuple #[.int .i64 r, .int .i64 0, .int .i64 0]) ∧ Below w.heap.size w w' := by
  have hmf : ∀ (fn : Fn) (first cap : Array Value) (w : World), (Instr.makeFunc fn first cap).run Try.prog w = .ok (.func fn first cap) w := fun _ _ _ _ => rfl
  obtain ⟨hr0, hl0⟩ := rd_start w rfl hrow (by rw [List.length_append, head_length]; show 5 + 1 ≤ _; omega)
  have HR0 := keep hr0
  have HL0 := keep hl0
  have HT := keep hT
  have hbits : s.bits ≤ 128 := hT.okay.few
  have HBITS := keep (Bits_ok (hT.below hr0.below))
  have HHEAD := keep (head_ok (l := [UInt8.ofNat r]) (q := 0) hl0 hbits (by omega))
  clear hT hrow hr0 hl0
  go_enter_defers Try.func38, Try.ntmps38
  go_wp2_with fail
  refine HBITS.out.mono ?_
  rintro e w1 ⟨rfl, rfl⟩
  clear HBITS
  go_wp2_with fail
  refine HHEAD.out.mono ?_
  rintro e w2 ⟨rfl, hL2, hJ2⟩
  have HR2 := keep (HR0.out.just hJ2)
  have HEND := keep (end_ok hL2 hr)
  clear HHEAD hL2 hJ2 HL0 HR0
  go_wp2_with fail
  refine HEND.out.mono ?_
  rintro e w3 ⟨rfl, hL3, hJ3⟩
  have HR3 := keep (HR2.out.just hJ3)
  obtain ⟨⟨u0, u1, u2⟩, v0, v1, v2⟩ := HR3.out.cells
  clear HEND hL3 hJ3 HR2
  go_wp2_with fail
  refine leaves_cons (f := 72) (args := #[.pointer (some ⟨w.heap.size + 1 + 1 + 1, 0, none⟩), .pointer (some ⟨w.heap.size, 0, none⟩), .pointer (some ⟨w.heap.size + 1, 0, none⟩), .pointer (some ⟨w.heap.size + 1 + 1, 0, none⟩)]) (by simp) (by simp [go_sem]) ?_
  refine (read_idle _ _ _ _ _).mono ?_
  rintro e u' w'' ⟨rfl, rfl, rfl⟩
  refine ⟨.tuple #[.int .i64 r, .int .i64 0, .int .i64 0], ?_, rfl, ((HR3.out.below.setCell (by simp) _).setCell (by simp) _).setCell (by simp; omega) _⟩
  simp [results, Try.results38, go_sem, u0, u1, u2]

set_option maxRecDepth 2000 in
set_option maxHeartbeats 4000000 in
theorem read_some {M : Nat} {w : World} {y : Lay} {s : St} (A : Bd.Fam s.bits M) (hT : Tab w y s) (hW : Bd.Within A s.L) (h2 : 2 ≤ s.first) (hsm : s.roots.length + 1 ≤ 1073741824) (hlim : s.bits * M ≤ s.limit) (g cap : Nat) (Q : List Nd) (hQ1 : 1 ≤ Q.length) (hQn : Q.length ≤ 1048576) (hR : Right s.bits Q) (hF : Bd.Within A Q) (hrow : w.ownsRow 0 5 1 (.slice (some ⟨g, 0, none⟩) (5 + 9 * Q.length) cap) (5 + 9 * Q.length) (byts (headB s.bits Q.length ++ Q.flatMap nodeB))) :
    Calls Try.prog 38 #[.pointer (some ⟨y.tb, 0, none⟩), .slice (some ⟨g, 0, none⟩) (5 + 9 * Q.length) cap] w fun e w' => ∃ r : Nat, e = .returned (.tuple #[.int .i64 r, .int .i64 0, .int .i64 0]) ∧ Told A w y s w' r (lastF Q) := by
  have hmf : ∀ (fn : Fn) (first cap : Array Value) (w : World), (Instr.makeFunc fn first cap).run Try.prog w = .ok (.func fn first cap) w := fun _ _ _ _ => rfl
  obtain ⟨hr0, hl0⟩ := rd_start w (show 5 + 9 * Q.length = (headB s.bits Q.length ++ Q.flatMap nodeB).length by rw [List.length_append, head_length, flat_length9]) hrow (by rw [List.length_append, head_length, flat_length9]; omega)
  have HR0 := keep hr0
  have HT := keep hT
  have hbits : s.bits ≤ 128 := hT.okay.few
  have HBITS := keep (Bits_ok (hT.below hr0.below))
  have HHEAD := keep (head_ok hl0 hbits hQn)
  have HNODES : Hid (∀ W, LeftAt W (w.heap.size + 1 + 1 + 1) g (Q.flatMap nodeB) → RdAt w W → Calls Try.prog 75 #[.pointer (some ⟨w.heap.size + 1 + 1 + 1, 0, none⟩), .int .i64 Q.length] W fun e w1 => ∃ gq : Nat, e = .returned (.slice (some ⟨gq, 0, none⟩) Q.length Q.length) ∧
      Hid (Calls Try.prog 28 #[.pointer (some ⟨y.tb, 0, none⟩), .slice (some ⟨gq, 0, none⟩) Q.length Q.length] w1 fun e w2 => ∃ r : Nat, e = .returned (.tuple #[.int .i64 r, .int .i64 0, .int .i64 0]) ∧
        ((w2.cell? ⟨w.heap.size, 0, none⟩ = some (.int .i64 0) ∧ w2.cell? ⟨w.heap.size + 1, 0, none⟩ = some (.int .i64 0) ∧ w2.cell? ⟨w.heap.size + 1 + 1, 0, none⟩ = some (.int .i64 0)) ∧ w2.frozen? ⟨w.heap.size, 0, none⟩ = false ∧ w2.frozen? ⟨w.heap.size + 1, 0, none⟩ = false ∧ w2.frozen? ⟨w.heap.size + 1 + 1, 0, none⟩ = false) ∧
        Hid (∀ w', Touch (fun k => k = w.heap.size ∨ k = w.heap.size + 1 ∨ k = w.heap.size + 1 + 1) (fun _ => False) w2 w' → Told A w y s w' r (lastF Q)))) := fun W hLW hRW => by
    refine (nodes_ok hLW hR.okay hQn).mono ?_
    rintro e w1 ⟨rfl, hrow1, hto⟩
    have hR1 := hRW.touch hto
    refine ⟨W.heap.size, rfl, ?_⟩
    have hsW := hRW.size
    refine (Make_ok A (hT.below hR1.below) hW h2 hsm hlim Q _ hrow1 (fun k hk ho => by simp [Value.ownBlock] at hk; have := hT.lt ho; omega) hR (by omega) hF).mono ?_
    rintro e w2 ⟨r, rfl, ht⟩
    obtain ⟨N, t, y', m, q1, q2, q3, q4, q5, q6, q7⟩ := ht.ex
    have hb : ∀ k, w.heap.size ≤ k → k < w.heap.size + 4 → w2.heap[k]? = w1.heap[k]? := fun k hk1 hk2 => q6.block k (Nat.lt_of_lt_of_le hk2 hR1.size) (fun ho => by have := hT.lt ho; omega) (fun h => h)
    have c0 := (hb w.heap.size (by omega) (by omega)).trans hR1.b0
    have c1 := (hb (w.heap.size + 1) (by omega) (by omega)).trans hR1.b1
    have c2 := (hb (w.heap.size + 1 + 1) (by omega) (by omega)).trans hR1.b2
    refine ⟨r, rfl, ⟨⟨by rw [cell_at c0]; rfl, by rw [cell_at c1]; rfl, by rw [cell_at c2]; rfl⟩, not_frozen c0, not_frozen c1, not_frozen c2⟩, fun w' hw' => ?_⟩
    have hsz := hR1.size
    have hmv : Moves noX w y w2 y' := (moves_below y hR1.below).trans q6
    have hnew : ∀ k, y'.own k → k < w.heap.size ∨ w.heap.size + 4 ≤ k := fun k hk => by
      rcases q6.own k hk with h | h
      · exact Or.inl (hT.lt h)
      · exact Or.inr (by omega)
    refine ⟨N, t, y', m, q1.same fun k hk => hw'.block k (q1.lt hk) (fun hx => by rcases hnew k hk with h | h <;> omega), q2, q3, q4, q5, ⟨hmv.tb, hmv.own, hw'.os.trans hmv.os, hw'.tape.trans hmv.tape, hw'.output.trans hmv.output, Nat.le_trans hmv.size hw'.size, fun k hk hn hx => ?_⟩, q7⟩
    rw [hw'.block k (Nat.lt_of_lt_of_le hk hmv.size) (fun hx => by omega)]
    exact hmv.block k hk hn hx
  obtain ⟨q, hq⟩ : ∃ q, q = Q.length := ⟨_, rfl⟩
  rw [← hq] at HHEAD HNODES hQ1 hQn ⊢
  have hq0 : ((q : Int) == 0) = false := by rw [beq_eq_false_iff_ne]; omega
  have hqI : (q : Int) ≤ 1048576 := by omega
  rw [← hq] at HBITS HR0
  clear hT hrow hr0 hl0 hW hF hR hq
  go_enter_defers Try.func38, Try.ntmps38
  go_wp2_with fail
  refine HBITS.out.mono ?_
  rintro e w1 ⟨rfl, rfl⟩
  clear HBITS
  go_wp2_with fail
  refine HHEAD.out.mono ?_
  rintro e w2 ⟨rfl, hL2, hJ2⟩
  have HN2 := keep (HNODES.out w2 hL2 (HR0.out.just hJ2))
  clear HHEAD hL2 hJ2 HR0 HNODES
  go_wp2_with fail
  refine HN2.out.mono ?_
  rintro e w3 ⟨gq, rfl, HMK⟩
  clear HN2
  go_wp2_with fail
  refine HMK.out.mono ?_
  rintro e w4 ⟨r, rfl, ⟨⟨u0, u1, u2⟩, v0, v1, v2⟩, HTOLD⟩
  clear HMK
  go_wp2_with fail
  refine (must_yes _ _ _).mono ?_
  rintro e w5 ⟨rfl, rfl⟩
  go_wp2_with fail
  go_region
  have HF := keep (HTOLD.out _ (none_drew (none_set (none_set (none_set (none_set (none_set (none_refl _ w4) (b := w.heap.size) (i := 0) (Or.inl rfl) (.int .i64 r)) (b := w.heap.size + 1 + 1) (i := 0) (Or.inr (Or.inr rfl)) (.int .i64 0)) (b := w.heap.size) (i := 0) (Or.inl rfl) (.int .i64 r)) (b := w.heap.size + 1) (i := 0) (Or.inr (Or.inl rfl)) (.int .i64 0)) (b := w.heap.size + 1 + 1) (i := 0) (Or.inr (Or.inr rfl)) (.int .i64 0)) 1))
  clear HTOLD
  go_wp2_with fail
  refine leaves_cons (f := 72) (args := #[.pointer (some ⟨w.heap.size + 1 + 1 + 1, 0, none⟩), .pointer (some ⟨w.heap.size, 0, none⟩), .pointer (some ⟨w.heap.size + 1, 0, none⟩), .pointer (some ⟨w.heap.size + 1 + 1, 0, none⟩)]) (by simp) (by simp [go_sem]) ?_
  refine (read_idle _ _ _ _ _).mono ?_
  rintro e u' w'' ⟨rfl, rfl, rfl⟩
  refine ⟨.tuple #[.int .i64 r, .int .i64 0, .int .i64 0], ?_, r, rfl, HF.out⟩
  have q0 := set_again u0 (.int .i64 r)
  have q2 : (w4.setCell ⟨w.heap.size, 0, none⟩ (.int .i64 r)).cell? ⟨w.heap.size + 1 + 1, 0, none⟩ = some (.int .i64 0) := by rw [World.cell?_setCell_far _ _ _ _ (by show w.heap.size ≠ w.heap.size + 1 + 1; omega)]; exact u2
  have q3 := set_again q2 (.int .i64 0)
  have q4 : (((w4.setCell ⟨w.heap.size, 0, none⟩ (.int .i64 r)).setCell ⟨w.heap.size + 1 + 1, 0, none⟩ (.int .i64 0)).setCell ⟨w.heap.size, 0, none⟩ (.int .i64 r)).cell? ⟨w.heap.size + 1 + 1, 0, none⟩ = some (.int .i64 0) := by rw [World.cell?_setCell_far _ _ _ _ (by show w.heap.size ≠ w.heap.size + 1 + 1; omega)]; exact q3
  have q5 : ((((w4.setCell ⟨w.heap.size, 0, none⟩ (.int .i64 r)).setCell ⟨w.heap.size + 1 + 1, 0, none⟩ (.int .i64 0)).setCell ⟨w.heap.size, 0, none⟩ (.int .i64 r)).setCell ⟨w.heap.size + 1, 0, none⟩ (.int .i64 0)).cell? ⟨w.heap.size + 1 + 1, 0, none⟩ = some (.int .i64 0) := by rw [World.cell?_setCell_far _ _ _ _ (by show w.heap.size + 1 ≠ w.heap.size + 1 + 1; omega)]; exact q4
  have q6 := set_again q5 (.int .i64 0)
  simp [results, Try.results38, go_sem, u1, q0, q6]

set_option maxHeartbeats 1000000 in
/-- The bytes of a function, read in a table of as many bits. -/
theorem Read_ok {M : Nat} {w : World} {y : Lay} {s : St} (A : Bd.Fam s.bits M) (hT : Tab w y s) (hW : Bd.Within A s.L) (h2 : 2 ≤ s.first) (hsm : s.roots.length + 1 ≤ 1073741824) (hlim : s.bits * M ≤ s.limit) (v : Value) (Q : List Nd) (f : Bd.Fn) (r : Nat) (hQ : Listed A Q f) (hQn : Q.length ≤ 1048576) (hr : (Q.length = 0 → (r = 0 ∧ f = ff) ∨ (r = 1 ∧ f = tt)))
    (hrow : w.ownsRow 0 5 1 v (dumpB s.bits Q r).length (byts (dumpB s.bits Q r))) :
    Calls Try.prog 12 #[.pointer (some ⟨y.tb, 0, none⟩), v] w fun e w' => ∃ r' : Nat, e = .returned (.tuple #[.int .i64 r', .int .i64 0, .int .i64 0]) ∧ Told A w y s w' r' f := by
  have hd : 0 < (dumpB s.bits Q r).length := by unfold dumpB; rw [List.length_append, head_length]; omega
  obtain ⟨g, cap, rfl, _, _⟩ := hrow.form hd
  have HD := keep (dmade_ok hT)
  have HC : Hid (Calls Try.prog 38 #[.pointer (some ⟨y.tb, 0, none⟩), .slice (some ⟨g, 0, none⟩) (dumpB s.bits Q r).length cap] w fun e w' => ∃ r' : Nat, e = .returned (.tuple #[.int .i64 r', .int .i64 0, .int .i64 0]) ∧ Hid (Told A w y s w' r' f)) := by
    have hb := hT.okay.few
    by_cases h0 : Q.length = 0
    · have e : dumpB s.bits Q r = headB s.bits 0 ++ [UInt8.ofNat r] := by unfold dumpB; rw [if_pos h0, h0]
      rw [e] at hrow ⊢
      have hr1 : r ≤ 1 := by rcases hr h0 with h | h <;> omega
      refine (read_end hT g cap r hr1 hrow).mono ?_
      rintro e w' ⟨rfl, hbl⟩
      refine ⟨r, rfl, [], [], y, r, by simpa using hT.below hbl, by simpa using hW, ?_, by omega, ?_, moves_below y hbl, Or.inl rfl⟩
      · unfold St.node?; rw [if_pos (by omega)]
      · rcases hr h0 with ⟨rfl, rfl⟩ | ⟨rfl, rfl⟩
        · exact Bd.den_zero _
        · exact Bd.den_one _
    · have e : dumpB s.bits Q r = headB s.bits Q.length ++ Q.flatMap nodeB := by unfold dumpB; rw [if_neg h0]
      have el : (headB s.bits Q.length ++ Q.flatMap nodeB).length = 5 + 9 * Q.length := by rw [List.length_append, head_length, flat_length9]
      rw [e, el] at hrow
      rw [e, el]
      rcases listed_right hQ with ⟨e, _⟩ | ⟨hR, h1, hd⟩
      · rw [e] at h0; exact absurd rfl h0
      · have hl : lastF Q = f := by
          refine listed_last hQ (fun ef => ?_)
          have hc : Q.length + 1 = 1 := Bd.canon hR.okay (n := Q.length + 1) (m := 1) (by omega) (by omega) (by rw [hd, ef, Bd.den_one])
          omega
        rw [← hl]
        refine (read_some A hT hW h2 hsm hlim g cap Q h1 hQn hR hQ.within hrow).mono ?_
        rintro e w' ⟨r', rfl, ht⟩
        exact ⟨r', rfl, ht⟩
  obtain ⟨n, hn⟩ : ∃ n, n = (dumpB s.bits Q r).length := ⟨_, rfl⟩
  rw [← hn] at HC ⊢
  clear hT hW hlim hQ hr hrow hn hd
  go_enter Try.func12, Try.ntmps12
  go_wp2_with fail
  refine HD.out.mono ?_
  rintro e w1 ⟨rfl, rfl⟩
  go_wp2_with fail
  refine HC.out.mono ?_
  rintro e w2 ⟨r', rfl, HT⟩
  go_wp2
  go_ret3
  exact ⟨r', rfl, HT.out⟩
end Go.Proofs.Ytffngpdngjfcfaa
namespace Go.Proofs.Ytffngpdngjfcfaa
open Go.RowKit Go.Maps
open Bd (Nd)

theorem Try.infoBoo : (Try.prog.info? 4).map (fun i => (i.zero, i.size, i.bytes)) = some (some (.bool false), 1, 1) := by kernel_rfl

/-- A node's cells. -/
theorem QTab.node {w : World} {y : QLay} {s : QSt} (h : QTab w y s) {i : Nat} {x : Nd} (hx : s.L[i]? = some x) :
    ∃ g cap, y.ns = .slice (some ⟨g, 0, none⟩) s.L.length cap ∧ w.cell? ⟨g, i * 3, none⟩ = some (.int .i64 x.1) ∧ w.cell? ⟨g, i * 3 + 1, none⟩ = some (.int .i64 x.2.1) ∧ w.cell? ⟨g, i * 3 + 2, none⟩ = some (.int .i64 x.2.2) := by
  have hi := Bd.getElem?_lt hx
  obtain ⟨g, cap, hv, _, _⟩ := h.list.form (by omega)
  have hl := h.list
  rw [hv] at hl
  have hadd : ∀ j, (⟨g, 0, none⟩ : Addr).add j = ⟨g, j, none⟩ := by intro j; unfold Addr.add; split <;> simp_all
  obtain ⟨f0, f1, f2⟩ := flat_at hx
  have d0 := hl.cells rfl _ _ f0
  have d1 := hl.cells rfl _ _ f1
  have d2 := hl.cells rfl _ _ f2
  rw [hadd] at d0 d1 d2
  exact ⟨g, cap, hv, d0, d1, d2⟩

/-- A table's struct and its three rows, each of its own length. -/
structure Q3 (w : World) (tb : Nat) (b l ns us ts : Value) (n0 n1 n2 : Nat) (xs ys zs : List Value) : Prop where
  cells : w.heap[tb]? = some (.cells #[b, l, ns, us, ts] 113 (0, 0))
  list : w.ownsRow 0 82 3 ns n0 xs
  used : w.ownsRow 0 4 1 us n1 ys
  told : w.ownsRow 0 4 1 ts n2 zs
  two : ∀ g, us.ownBlock = some g → ts.ownBlock ≠ some g
def q3own (tb : Nat) (ns us ts : Value) (k : Nat) : Prop := k = tb ∨ ns.ownBlock = some k ∨ us.ownBlock = some k ∨ ts.ownBlock = some k
section
variable {w w1 : World} {tb : Nat} {b l ns us ts v : Value} {n0 n1 n2 m g : Nat} {xs ys zs vs : List Value} {o : Obj}
theorem Q3.apart (h : Q3 w tb b l ns us ts n0 n1 n2 xs ys zs) : ns.ownBlock ≠ some tb ∧ us.ownBlock ≠ some tb ∧ ts.ownBlock ≠ some tb ∧ (∀ g, ns.ownBlock = some g → us.ownBlock ≠ some g) ∧ (∀ g, ns.ownBlock = some g → ts.ownBlock ≠ some g) := by
  refine ⟨fun e => ?_, fun e => ?_, fun e => ?_, fun g e e' => ?_, fun g e e' => ?_⟩
  · obtain ⟨cur, hc⟩ := owned_cells h.list e; rw [h.cells] at hc; simp at hc
  · obtain ⟨cur, hc⟩ := owned_cells h.used e; rw [h.cells] at hc; simp at hc
  · obtain ⟨cur, hc⟩ := owned_cells h.told e; rw [h.cells] at hc; simp at hc
  · obtain ⟨cur, hc⟩ := owned_cells h.list e; obtain ⟨cur', hc'⟩ := owned_cells h.used e'; rw [hc] at hc'; simp at hc'
  · obtain ⟨cur, hc⟩ := owned_cells h.list e; obtain ⟨cur', hc'⟩ := owned_cells h.told e'; rw [hc] at hc'; simp at hc'
theorem Q3.lt (h : Q3 w tb b l ns us ts n0 n1 n2 xs ys zs) {k : Nat} (hk : q3own tb ns us ts k) : k < w.heap.size := by
  rcases hk with rfl | hk | hk | hk
  · exact block_lt h.cells
  · exact (h.list.lt k hk).2
  · exact (h.used.lt k hk).2
  · exact (h.told.lt k hk).2
theorem grown_old (hg : (w.alloc o).grownBy w1 v.ownBlock) {k : Nat} (hk : k < w.heap.size) (hn : v.ownBlock ≠ some k) : w1.heap[k]? = w.heap[k]? :=
  (hg.block k (by simp; omega) (fun e => hn e.symm)).trans (heap_alloc_old w o hk)
/-- One of the rows has grown, and lies in its field. -/
theorem set_touch (O : Nat → Prop) {old : Value} {tb i : Nat} (htb : O tb) (hold : ∀ k, old.ownBlock = some k → O k) (hg : (w.alloc o).grownBy w1 old.ownBlock) (O' : Nat → Prop) (hO' : ∀ k, O' k → O k ∨ w.heap.size ≤ k) : Touch O O' w (w1.setCell ⟨tb, i, none⟩ v) := by
  have hz : w.heap.size + 1 ≤ w1.heap.size := by have := hg.size; simpa using this
  refine ⟨hO', hg.os, hg.tape, hg.output, by simp; omega, fun k hk hn => ?_⟩
  rw [set_other v (fun e => hn (by rw [e]; exact htb))]
  exact grown_old hg hk (fun e => hn (hold k e))
theorem Q3.stepN (h : Q3 w tb b l ns us ts n0 n1 n2 xs ys zs) (hown : w1.ownsRow 0 82 3 v m vs) (hg : (w.alloc o).grownBy w1 ns.ownBlock) (hv : v.ownBlock = some g) (hat : ns.ownBlock = some g ∨ g = w.heap.size + 1) :
    Q3 (w1.setCell ⟨tb, 2, none⟩ v) tb b l v us ts m n1 n2 vs ys zs ∧ Touch (q3own tb ns us ts) (q3own tb v us ts) w (w1.setCell ⟨tb, 2, none⟩ v) := by
  obtain ⟨a1, a2, a3, a4, a5⟩ := h.apart
  have ltb := block_lt h.cells
  have hc : w1.heap[tb]? = _ := (grown_old hg ltb a1).trans h.cells
  have hgt : g ≠ tb := by
    rcases hat with e | e
    · intro e'; rw [e'] at e; exact a1 e
    · omega
  refine ⟨⟨by rw [set_block (o := 2) v hc]; rfl, row_same hown fun g' hg' => set_other v (by rw [hv] at hg'; cases hg'; exact hgt), row_same h.used fun g' hg' => ?_, row_same h.told fun g' hg' => ?_, h.two⟩, set_touch _ (Or.inl rfl) (fun k hk => Or.inr (Or.inl hk)) hg _ (fun k hk => ?_)⟩
  · rw [set_other v (fun e => a2 (by rw [hg', e]))]
    exact grown_old hg (h.used.lt g' hg').2 (fun e => a4 g' e hg')
  · rw [set_other v (fun e => a3 (by rw [hg', e]))]
    exact grown_old hg (h.told.lt g' hg').2 (fun e => a5 g' e hg')
  · rcases hk with e | e | e | e
    · exact Or.inl (Or.inl e)
    · rw [hv] at e
      cases e
      rcases hat with e | e
      · exact Or.inl (Or.inr (Or.inl e))
      · exact Or.inr (by omega)
    · exact Or.inl (Or.inr (Or.inr (Or.inl e)))
    · exact Or.inl (Or.inr (Or.inr (Or.inr e)))
theorem Q3.stepU (h : Q3 w tb b l ns us ts n0 n1 n2 xs ys zs) (hown : w1.ownsRow 0 4 1 v m vs) (hg : (w.alloc o).grownBy w1 us.ownBlock) (hv : v.ownBlock = some g) (hat : us.ownBlock = some g ∨ g = w.heap.size + 1) :
    Q3 (w1.setCell ⟨tb, 3, none⟩ v) tb b l ns v ts n0 m n2 xs vs zs ∧ Touch (q3own tb ns us ts) (q3own tb ns v ts) w (w1.setCell ⟨tb, 3, none⟩ v) := by
  obtain ⟨a1, a2, a3, a4, a5⟩ := h.apart
  have ltb := block_lt h.cells
  have hc : w1.heap[tb]? = _ := (grown_old hg ltb a2).trans h.cells
  have hgt : g ≠ tb := by
    rcases hat with e | e
    · intro e'; rw [e'] at e; exact a2 e
    · omega
  refine ⟨⟨by rw [set_block (o := 3) v hc]; rfl, row_same h.list fun g' hg' => ?_, row_same hown fun g' hg' => set_other v (by rw [hv] at hg'; cases hg'; exact hgt), row_same h.told fun g' hg' => ?_, fun g' e1 e2 => ?_⟩, set_touch _ (Or.inl rfl) (fun k hk => Or.inr (Or.inr (Or.inl hk))) hg _ (fun k hk => ?_)⟩
  · rw [set_other v (fun e => a1 (by rw [hg', e]))]
    exact grown_old hg (h.list.lt g' hg').2 (fun e => a4 g' hg' e)
  · rw [set_other v (fun e => a3 (by rw [hg', e]))]
    exact grown_old hg (h.told.lt g' hg').2 (fun e => h.two g' e hg')
  · rw [hv] at e1
    cases e1
    rcases hat with e | e
    · exact h.two g e e2
    · have := (h.told.lt g e2).2; omega
  · rcases hk with e | e | e | e
    · exact Or.inl (Or.inl e)
    · exact Or.inl (Or.inr (Or.inl e))
    · rw [hv] at e
      cases e
      rcases hat with e | e
      · exact Or.inl (Or.inr (Or.inr (Or.inl e)))
      · exact Or.inr (by omega)
    · exact Or.inl (Or.inr (Or.inr (Or.inr e)))
theorem Q3.stepT (h : Q3 w tb b l ns us ts n0 n1 n2 xs ys zs) (hown : w1.ownsRow 0 4 1 v m vs) (hg : (w.alloc o).grownBy w1 ts.ownBlock) (hv : v.ownBlock = some g) (hat : ts.ownBlock = some g ∨ g = w.heap.size + 1) :
    Q3 (w1.setCell ⟨tb, 4, none⟩ v) tb b l ns us v n0 n1 m xs ys vs ∧ Touch (q3own tb ns us ts) (q3own tb ns us v) w (w1.setCell ⟨tb, 4, none⟩ v) := by
  obtain ⟨a1, a2, a3, a4, a5⟩ := h.apart
  have ltb := block_lt h.cells
  have hc : w1.heap[tb]? = _ := (grown_old hg ltb a3).trans h.cells
  have hgt : g ≠ tb := by
    rcases hat with e | e
    · intro e'; rw [e'] at e; exact a3 e
    · omega
  refine ⟨⟨by rw [set_block (o := 4) v hc]; rfl, row_same h.list fun g' hg' => ?_, row_same h.used fun g' hg' => ?_, row_same hown fun g' hg' => set_other v (by rw [hv] at hg'; cases hg'; exact hgt), fun g' e1 e2 => ?_⟩, set_touch _ (Or.inl rfl) (fun k hk => Or.inr (Or.inr (Or.inr hk))) hg _ (fun k hk => ?_)⟩
  · rw [set_other v (fun e => a1 (by rw [hg', e]))]
    exact grown_old hg (h.list.lt g' hg').2 (fun e => a5 g' hg' e)
  · rw [set_other v (fun e => a2 (by rw [hg', e]))]
    exact grown_old hg (h.used.lt g' hg').2 (fun e => h.two g' hg' e)
  · rw [hv] at e2
    cases e2
    rcases hat with e | e
    · exact h.two g e1 e
    · have := (h.used.lt g e1).2; omega
  · rcases hk with e | e | e | e
    · exact Or.inl (Or.inl e)
    · exact Or.inl (Or.inr (Or.inl e))
    · exact Or.inl (Or.inr (Or.inr (Or.inl e)))
    · rw [hv] at e
      cases e
      rcases hat with e | e
      · exact Or.inl (Or.inr (Or.inr (Or.inr e)))
      · exact Or.inr (by omega)
theorem Q3.facts (h : Q3 w tb b l ns us ts n0 n1 n2 xs ys zs) : w.cell? ⟨tb, 2, none⟩ = some ns ∧ w.cell? ⟨tb, 3, none⟩ = some us ∧ w.cell? ⟨tb, 4, none⟩ = some ts ∧ w.frozen? ⟨tb, 2, none⟩ = false ∧ w.frozen? ⟨tb, 3, none⟩ = false ∧ w.frozen? ⟨tb, 4, none⟩ = false :=
  ⟨by rw [cell_at h.cells]; rfl, by rw [cell_at h.cells]; rfl, by rw [cell_at h.cells]; rfl, not_frozen h.cells, not_frozen h.cells, not_frozen h.cells⟩
theorem block_facts (hc : w1.heap[tb]? = w.heap[tb]?) (h : Q3 w tb b l ns us ts n0 n1 n2 xs ys zs) : w1.cell? ⟨tb, 2, none⟩ = some ns ∧ w1.cell? ⟨tb, 3, none⟩ = some us ∧ w1.cell? ⟨tb, 4, none⟩ = some ts ∧ w1.frozen? ⟨tb, 2, none⟩ = false ∧ w1.frozen? ⟨tb, 3, none⟩ = false ∧ w1.frozen? ⟨tb, 4, none⟩ = false := by
  have h1 := hc.trans h.cells
  exact ⟨by rw [cell_at h1]; rfl, by rw [cell_at h1]; rfl, by rw [cell_at h1]; rfl, not_frozen h1, not_frozen h1, not_frozen h1⟩
end
theorem set_alloc_new (w : World) (a : Addr) (u : Value) (o : Obj) : ((w.setCell a u).alloc o).heap[w.heap.size]? = some o := by
  have h := heap_alloc_new (w.setCell a u) o
  have e : (w.setCell a u).heap.size = w.heap.size := by simp
  rw [e] at h
  exact h
theorem QTab.q3 {w : World} {y : QLay} {s : QSt} (h : QTab w y s) : Q3 w y.tb (i6 s.bits) (i6 s.limit) y.ns y.us y.ts s.L.length s.L.length s.L.length (flat s.L) (boos s.U) (boos s.T) := ⟨h.cells, h.list, h.used, h.told, h.two⟩

set_option maxHeartbeats 2000000 in
theorem qnode_any {M : Nat} {w : World} {y : QLay} {s : QSt} (A : Bd.Fam s.bits M) (hT : QTab w y s) (hW : Bd.Within A s.L) (hbM : s.bits * M ≤ 1048576)
    (k lo hi : Nat) (hk : k < s.bits) (hlo : lo < s.L.length + 2) (hhi : hi < s.L.length + 2) (hlb : k < Bd.bitOf s.L lo) (hhb : k < Bd.bitOf s.L hi) (hF : A.F k (Bd.mux k (Bd.den s.L lo) (Bd.den s.L hi))) :
    Calls Try.prog 68 #[.pointer (some ⟨y.tb, 0, none⟩), i6 k, i6 lo, i6 hi] w fun e w' => ∃ r, e = .returned (i6 r) ∧ QGrew A w y s w' r (Bd.mux k (Bd.den s.L lo) (Bd.den s.L hi)) := by
  by_cases hlh : lo = hi
  · subst hlh
    have HR : Hid (QGrew A w y s w lo (Bd.mux k (Bd.den s.L lo) (Bd.den s.L lo))) := QGrew.same hT hW hlo (Bd.mux_same _ _).symm (Below.refl _ _)
    clear hT hW hF
    go_enter Try.func68, Try.ntmps68
    go_wp2
    go_ret
    exact ⟨lo, rfl, HR.out⟩
  · have hf128 := hT.okay.few
    have hsm := hT.small.1
    have hneI : ((lo : Int) == (hi : Int)) = false := by rw [beq_eq_false_iff_ne]; omega
    have HT := keep hT
    have HW := keep hW
    have HF := keep hF
    have HK := keep hk
    have HLO := keep hlo
    have HHI := keep hhi
    have HLB := keep hlb
    have HHB := keep hhb
    have HLH := keep hlh
    obtain ⟨n, hn⟩ : ∃ n, n = s.L.length := ⟨_, rfl⟩
    have HN := keep hn
    obtain ⟨ao, cap, hns⟩ := row_slice hT.list
    have c2 := hT.cell2
    rw [hns, ← hn] at c2
    have ltb := hT.lt y.own_tb
    have HNS := keep hns
    rw [← hn] at hsm hlo hhi
    clear hT hW hF hns hn hlb hhb hlh
    go_enter Try.func68, Try.ntmps68
    go_wp2
    go_loopw [9] (fun i wr => ∃ j : Nat, j ≤ n ∧ i = .int .i64 j ∧ Hid (∀ q, q < j → s.L[q]? ≠ some (k, lo, hi)) ∧ Hid (Below w.heap.size w wr)) (fun i _ => n - (intOf i).toNat)
    case atStart => exact ⟨0, Nat.zero_le _, rfl, fun q hq => absurd hq (Nat.not_lt_zero q), Below.refl _ _⟩
    case round =>
      obtain ⟨j, hj, rfl, HQ, HB⟩ := hrel
      have c2r : wr.cell? ⟨y.tb, 2, none⟩ = some (.slice ao n cap) := by rw [HB.out.cell (by exact ltb)]; exact c2
      by_cases hlt : j < n
      · obtain ⟨x, hx⟩ : ∃ x, s.L[j]? = some x := ⟨s.L[j]'(by rw [← HN.out]; exact hlt), List.getElem?_eq_getElem (by rw [← HN.out]; exact hlt)⟩
        have HX := keep hx
        obtain ⟨g, cap', hv, d0, d1, d2⟩ := (HT.out.below HB.out).node hx
        rw [HNS.out] at hv
        cases hv
        clear hx
        have hjI : (j : Int) < (n : Int) := by omega
        have hnI : (n : Int) ≤ 1073741824 := by omega
        by_cases e0 : x.1 = k
        · by_cases e1 : x.2.1 = lo
          · by_cases e2 : x.2.2 = hi
            · have hxe : x = (k, lo, hi) := by obtain ⟨x0, x1, x2⟩ := x; simp at e0 e1 e2; rw [e0, e1, e2]
              have HR : Hid (∀ w', Below w.heap.size w w' → QGrew A w y s w' (j + 2) (Bd.mux k (Bd.den s.L lo) (Bd.den s.L hi))) := fun w' hb => by
                have h1 := HX.out
                rw [hxe] at h1
                exact QGrew.same HT.out HW.out (by rw [← HN.out]; omega) (Bd.den_at HT.out.okay h1) hb
              rw [e0] at d0
              rw [e1] at d1
              rw [e2] at d2
              clear hxe e0 e1 e2 HX
              go_wp2
              go_ret
              exact ⟨j + 2, by go_num, HR.out _ HB.out⟩
            · have hb2 : ((x.2.2 : Int) == (hi : Int)) = false := by rw [beq_eq_false_iff_ne]; omega
              have HQ2 : Hid (∀ q, q < j + 1 → s.L[q]? ≠ some (k, lo, hi)) := fun q hq => by
                by_cases e : q = j
                · subst e; rw [HX.out]; intro h; cases h; exact e2 rfl
                · exact HQ.out q (by omega)
              rw [e0] at d0
              rw [e1] at d1
              clear e0 e1 e2 HX HQ
              go_wp2
              go_roundw
              case rel => exact ⟨j + 1, by omega, by go_num, HQ2, HB⟩
              case measure => simp [intOf]; omega
          · have hb1 : ((x.2.1 : Int) == (lo : Int)) = false := by rw [beq_eq_false_iff_ne]; omega
            have HQ2 : Hid (∀ q, q < j + 1 → s.L[q]? ≠ some (k, lo, hi)) := fun q hq => by
              by_cases e : q = j
              · subst e; rw [HX.out]; intro h; cases h; exact e1 rfl
              · exact HQ.out q (by omega)
            rw [e0] at d0
            clear e0 e1 HX HQ
            go_wp2
            go_roundw
            case rel => exact ⟨j + 1, by omega, by go_num, HQ2, HB⟩
            case measure => simp [intOf]; omega
        · have hb0 : ((x.1 : Int) == (k : Int)) = false := by rw [beq_eq_false_iff_ne]; omega
          have HQ2 : Hid (∀ q, q < j + 1 → s.L[q]? ≠ some (k, lo, hi)) := fun q hq => by
            by_cases e : q = j
            · subst e; rw [HX.out]; intro h; cases h; exact e0 rfl
            · exact HQ.out q (by omega)
          clear e0 HX HQ
          go_wp2
          go_roundw
          case rel => exact ⟨j + 1, by omega, by go_num, HQ2, HB⟩
          case measure => simp [intOf]; omega
      · have hjn : j = n := by omega
        subst hjn
        have h3 := (HT.out.below HB.out).q3
        rw [HNS.out, ← HN.out] at h3
        obtain ⟨au, cu, hus⟩ := row_slice h3.used
        obtain ⟨at', ct, hts⟩ := row_slice h3.told
        rw [hus, hts] at h3
        have HUS := keep hus
        have HTS := keep hts
        have H3 := keep h3
        obtain ⟨i0, hi0, hz0, hz1, hz2⟩ := info_parts Try.infoNode
        obtain ⟨i1, hi1, hy0, hy1, hy2⟩ := info_parts Try.infoBoo
        have HI := keep hi0
        have HZ0 := keep hz0
        have HZ1 := keep hz1
        have HZ2 := keep hz2
        have HI1 := keep hi1
        have HY0 := keep hy0
        have HY1 := keep hy1
        have HY2 := keep hy2
        have HO1 : Hid (∀ o, (wr.alloc o).ownsRow 0 82 3 (.slice ao j cap) j (flat s.L)) := fun o => h3.list.alloc o
        clear h3 hus hts hi0 hz0 hz1 hz2 hi1 hy0 hy1 hy2
        go_wp2_with (at_builtin; refine wpList_append_lies _ rfl (.tmp 63) (.tmp 68) 46 rfl 0 82 i0 (.agg #[i6 0, i6 0, i6 0]) 3 24 Try.underlying46 HI.out HZ0.out HZ1.out HZ2.out rfl (by decide) (.slice ao j cap) j (flat s.L) rfl (HO1.out _) ⟨wr.heap.size, 0, none⟩ 1 1 [.int .i64 k, .int .i64 lo, .int .i64 hi] rfl rfl (World.news_of_block (heap_alloc_new wr _)) (by simp [Value.oneCell']) (by decide) (by unfold maxLen; omega) (by omega) (Nat.zero_le _) (wr.heap.size + 1) (by simp) ?_)
        intro g1 cap1 w1 hown1 hgrow1 hat1 hlt1
        obtain ⟨q2, q3, q4, f2, f3, f4⟩ := block_facts (grown_old hgrow1 (block_lt H3.out.cells) H3.out.apart.1) H3.out
        obtain ⟨hs1, ht1⟩ := H3.out.stepN hown1 hgrow1 rfl hat1
        have HS1 := keep hs1
        have HT1 := keep ht1
        have HO2 : Hid (∀ o, ((w1.setCell ⟨y.tb, 2, none⟩ (.slice (some ⟨g1, 0, none⟩) (j + 1) cap1)).alloc o).ownsRow 0 4 1 (.slice au j cu) j (boos s.U)) := fun o => hs1.used.alloc o
        clear hown1 hgrow1 hat1 hs1 ht1 HO1
        go_wp2_with (at_builtin; refine wpList_append_lies _ rfl (.tmp 76) (.tmp 77) 111 rfl 0 4 i1 (.bool false) 1 1 Try.underlying111 HI1.out HY0.out HY1.out HY2.out rfl (by decide) (.slice au j cu) j (boos s.U) rfl (HO2.out _) ⟨w1.heap.size, 0, none⟩ 1 1 [.bool false] rfl rfl (World.news_of_block (set_alloc_new _ _ _ _)) (by simp [Value.oneCell']) (by decide) (by unfold maxLen; omega) (by omega) (Nat.zero_le _) (w1.heap.size + 1) (by simp) ?_)
        intro g2 cap2 w2 hown2 hgrow2 hat2 hlt2
        obtain ⟨q2, q3, q4, f2, f3, f4⟩ := block_facts (grown_old hgrow2 (block_lt HS1.out.cells) HS1.out.apart.2.1) HS1.out
        obtain ⟨hs2, ht2⟩ := HS1.out.stepU hown2 hgrow2 rfl (by simpa using hat2)
        have HS2 := keep hs2
        have HT2 := keep ht2
        have HO3 : Hid (∀ o, ((w2.setCell ⟨y.tb, 3, none⟩ (.slice (some ⟨g2, 0, none⟩) (j + 1) cap2)).alloc o).ownsRow 0 4 1 (.slice at' j ct) j (boos s.T)) := fun o => hs2.told.alloc o
        clear hown2 hgrow2 hat2 hs2 ht2 HO2
        go_wp2_with (at_builtin; refine wpList_append_lies _ rfl (.tmp 85) (.tmp 86) 111 rfl 0 4 i1 (.bool false) 1 1 Try.underlying111 HI1.out HY0.out HY1.out HY2.out rfl (by decide) (.slice at' j ct) j (boos s.T) rfl (HO3.out _) ⟨w2.heap.size, 0, none⟩ 1 1 [.bool false] rfl rfl (World.news_of_block (set_alloc_new _ _ _ _)) (by simp [Value.oneCell']) (by decide) (by unfold maxLen; omega) (by omega) (Nat.zero_le _) (w2.heap.size + 1) (by simp) ?_)
        intro g3 cap3 w3 hown3 hgrow3 hat3 hlt3
        obtain ⟨q2, q3, q4, f2, f3, f4⟩ := block_facts (grown_old hgrow3 (block_lt HS2.out.cells) HS2.out.apart.2.2.1) HS2.out
        obtain ⟨hs3, ht3⟩ := HS2.out.stepT hown3 hgrow3 rfl (by simpa using hat3)
        have HS3 := keep hs3
        have HT3 := keep ht3
        clear hown3 hgrow3 hat3 hs3 ht3 HO3
        go_wp2
        go_ret
        have hin : (k, lo, hi) ∉ s.L := fun hm => by
          obtain ⟨q, hq, hx⟩ := List.getElem_of_mem hm
          exact HQ.out q (by rw [HN.out]; exact hq) (by rw [List.getElem?_eq_getElem hq, hx])
        have hok := HT.out.okay.snoc hin HLO.out HHI.out HLH.out HK.out HLB.out HHB.out
        have hW' : Bd.Within A (s.L ++ [(k, lo, hi)]) := HW.out.snoc HF.out
        have hfew := hW'.few hok
        have e1 : (s.L ++ [(k, lo, hi)]).length = j + 1 := by simp; exact HN.out.symm
        refine ⟨j + 2, by go_num, [(k, lo, hi)], ⟨y.tb, .slice (some ⟨g1, 0, none⟩) (j + 1) cap1, .slice (some ⟨g2, 0, none⟩) (j + 1) cap2, .slice (some ⟨g3, 0, none⟩) (j + 1) cap3⟩, ?_, hW', by omega, ?_, ?_, rfl⟩
        · have h := HS3.out
          refine { cells := h.cells, list := ?_, used := ?_, told := ?_, two := h.two, okay := hok, small := ?_ }
          · show World.ownsRow _ 0 82 3 _ (s.L ++ [(k, lo, hi)]).length (flat (s.L ++ [(k, lo, hi)]))
            rw [e1, flat_snoc]; exact h.list
          · show World.ownsRow _ 0 4 1 _ (s.L ++ [(k, lo, hi)]).length (boos (s.U ++ [false]))
            rw [e1, boos_append]; exact h.used
          · show World.ownsRow _ 0 4 1 _ (s.L ++ [(k, lo, hi)]).length (boos (s.T ++ [false]))
            rw [e1, boos_append]; exact h.told
          · have := HT.out.small
            refine ⟨?_, this.2.1, this.2.2⟩
            show (s.L ++ [(k, lo, hi)]).length ≤ _
            omega
        · have := Bd.den_snoc_new s.L (k, lo, hi)
          rw [← HN.out] at this
          exact this
        · have h0 : Touch y.own (q3own y.tb (.slice ao j cap) (.slice au j cu) (.slice at' j ct)) w wr := by
            have := touch_below y.own HB.out
            refine ⟨fun q hq => Or.inl ?_, this.os, this.tape, this.output, this.size, this.block⟩
            unfold QLay.own
            rw [HNS.out, HUS.out, HTS.out, ← HN.out]
            exact hq
          exact ((h0.trans HT1.out).trans HT2.out).trans HT3.out
end Go.Proofs.Ytffngpdngjfcfaa
namespace Go.Proofs.Ytffngpdngjfcfaa
open Go.RowKit Go.Maps
open Bd (Nd)

/-- The first bit of a function; of an end, one behind all. -/
def qbit (bits : Nat) (L : List Nd) (n : Nat) : Nat := if n < 2 then bits else Bd.bitOf L n
theorem qbit_eq {bits : Nat} {L : List Nd} (h : Bd.Okay bits L) {n k : Nat} (hk : k < bits) : (qbit bits L n = k) ↔ (Bd.bitOf L n = k) := by
  have := h.few
  unfold qbit
  split
  · rename_i h2
    rw [Bd.bitOf_end _ h2]
    omega
  · exact Iff.rfl

set_option maxHeartbeats 1000000 in
theorem qbit_any {w : World} {y : QLay} {s : QSt} (hT : QTab w y s) (n : Nat) (hn : n < s.L.length + 2) :
    Calls Try.prog 94 #[.pointer (some ⟨y.tb, 0, none⟩), i6 n] w fun e w' => e = .returned (i6 (qbit s.bits s.L n)) ∧ w' = w := by
  have hsm := hT.small.1
  rcases Nat.lt_or_ge n 2 with h2 | h2
  · have h2I : (n : Int) < 2 := by omega
    have c0 := hT.cell0
    unfold qbit
    rw [if_pos h2]
    clear hT
    go_enter Try.func94, Try.ntmps94
    go_wp2
    go_ret
    exact ⟨rfl, rfl⟩
  · unfold qbit
    rw [if_neg (by omega)]
    obtain ⟨i, rfl⟩ : ∃ i, n = i + 2 := ⟨n - 2, by omega⟩
    have hx : s.L[i]? = some s.L[i] := List.getElem?_eq_getElem (by omega)
    rw [Bd.bitOf_at hx]
    have c2 := hT.cell2
    obtain ⟨g, cap, hv, h0, _, _⟩ := hT.node hx
    rw [hv] at c2
    generalize s.L[i] = x at *
    generalize s.L.length = len at *
    have e1 : ((i + 2 : Nat) : Int) = (i : Int) + 2 := by omega
    simp only [i6, e1]
    have hl : ¬ ((i : Int) + 2 < 2) := by omega
    have hI : (i : Int) < (len : Int) := by omega
    clear hT
    go_enter Try.func94, Try.ntmps94
    go_wp2
    go_ret
    exact ⟨rfl, rfl⟩

def halfOf (L : List Nd) (n k : Nat) (b : Bool) : Nat := if b = true then Bd.hiOf L n k else Bd.loOf L n k

set_option maxHeartbeats 1000000 in
theorem qhalf_any {w : World} {y : QLay} {s : QSt} (hT : QTab w y s) (n k : Nat) (b : Bool) (hn : n < s.L.length + 2) (hk : k < s.bits) :
    Calls Try.prog 95 #[.pointer (some ⟨y.tb, 0, none⟩), i6 n, i6 k, .bool b] w fun e w' => e = .returned (i6 (halfOf s.L n k b)) ∧ w' = w := by
  have hsm := hT.small.1
  have hf := hT.okay.few
  by_cases hb : Bd.bitOf s.L n = k
  · have h2 := Bd.half_at (by omega) hb
    have hq := (qbit_eq hT.okay hk).2 hb
    obtain ⟨i, rfl⟩ : ∃ i, n = i + 2 := ⟨n - 2, by omega⟩
    have hx : s.L[i]? = some s.L[i] := List.getElem?_eq_getElem (by omega)
    have hlo : Bd.loOf s.L (i + 2) k = s.L[i].2.1 := by unfold Bd.loOf; rw [if_pos hb, List.getD_eq_getElem?_getD]; simp only [Nat.add_sub_cancel, hx, Option.getD_some]
    have hhi : Bd.hiOf s.L (i + 2) k = s.L[i].2.2 := by unfold Bd.hiOf; rw [if_pos hb, List.getD_eq_getElem?_getD]; simp only [Nat.add_sub_cancel, hx, Option.getD_some]
    have hbit := qbit_any hT (i + 2) hn
    unfold halfOf
    rw [hlo, hhi]
    rw [hq] at hbit
    clear hlo hhi hq hb
    have c2 := hT.cell2
    obtain ⟨g, cap, hv, h0, h1, h3⟩ := hT.node hx
    rw [hv] at c2
    generalize s.L[i] = x at *
    generalize s.L.length = len at *
    have e1 : ((i + 2 : Nat) : Int) = (i : Int) + 2 := by omega
    simp only [i6, e1] at hbit ⊢
    have hI : (i : Int) < (len : Int) := by omega
    have HB := keep hbit
    clear hbit hT
    cases b
    all_goals
      go_enter Try.func95, Try.ntmps95
      go_wp2_with (go_at_call 94; refine HB.out.mono ?_; rintro e w' ⟨rfl, rfl⟩)
      go_ret
      exact ⟨rfl, rfl⟩
  · have hlo : Bd.loOf s.L n k = n := by unfold Bd.loOf; rw [if_neg hb]
    have hhi : Bd.hiOf s.L n k = n := by unfold Bd.hiOf; rw [if_neg hb]
    have hq : qbit s.bits s.L n ≠ k := fun h => hb ((qbit_eq hT.okay hk).1 h)
    have HB := keep (qbit_any hT n hn)
    have hh : halfOf s.L n k b = n := by unfold halfOf; rw [hlo, hhi]; split <;> rfl
    rw [hh]
    have hne : ((qbit s.bits s.L n : Int) != (k : Int)) = true := by rw [bne_iff_ne]; omega
    clear hT hlo hhi hq hh hb
    generalize qbit s.bits s.L n = m at *
    go_enter Try.func95, Try.ntmps95
    go_wp2_with (go_at_call 94; refine HB.out.mono ?_; rintro e w' ⟨rfl, rfl⟩)
    go_ret
    exact ⟨rfl, rfl⟩
end Go.Proofs.Ytffngpdngjfcfaa
namespace Go.Proofs.Ytffngpdngjfcfaa
open Go.RowKit Go.Maps
open Bd (Nd)

def markF (L : List Nd) : Nat → Nat → List Bool → List Bool
  | 0, _, U => U
  | f + 1, a, U => if a < 2 then U else if U.getD (a - 2) false = true then U else markF L f (L.getD (a - 2) (0, 0, 0)).2.2 (markF L f (L.getD (a - 2) (0, 0, 0)).2.1 (U.set (a - 2) true))
theorem markF_succ (L : List Nd) (f a : Nat) (U : List Bool) : markF L (f + 1) a U = if a < 2 then U else if U.getD (a - 2) false = true then U else markF L f (L.getD (a - 2) (0, 0, 0)).2.2 (markF L f (L.getD (a - 2) (0, 0, 0)).2.1 (U.set (a - 2) true)) := rfl
theorem markF_length (L : List Nd) : ∀ f a U, (markF L f a U).length = U.length := by
  intro f
  induction f with
  | zero => intro a U; rfl
  | succ f ih =>
    intro a U
    rw [markF_succ]
    split
    · rfl
    · split
      · rfl
      · rw [ih, ih, List.length_set]

theorem boos_set (U : List Bool) (i : Nat) (b : Bool) : (boos U).set i (.bool b) = boos (U.set i b) := by simp [boos, List.map_set]

/-- What mark leaves: the marks, in their place; all else is as it was. -/
structure Marked (w : World) (g cap n : Nat) (U : List Bool) (w' : World) : Prop where
  row : w'.ownsRow 0 4 1 (.slice (some ⟨g, 0, none⟩) n cap) n (boos U)
  os : w'.os = w.os
  tape : w'.tape = w.tape
  output : w'.output = w.output
  size : w'.heap.size = w.heap.size
  block : ∀ k, k ≠ g → w'.heap[k]? = w.heap[k]?

theorem Marked.trans {w w1 w2 : World} {g cap n : Nat} {U V : List Bool} (h : Marked w g cap n U w1) (h' : Marked w1 g cap n V w2) : Marked w g cap n V w2 :=
  ⟨h'.row, h'.os.trans h.os, h'.tape.trans h.tape, h'.output.trans h.output, h'.size.trans h.size, fun k hk => (h'.block k hk).trans (h.block k hk)⟩

set_option maxHeartbeats 2000000 in
theorem mark_any {y : QLay} {s : QSt} (g cap : Nat) (hg : ¬ y.own g) : ∀ f a, a < f + 2 → a < s.L.length + 2 → ∀ (w : World) (U : List Bool), QTab w y s → U.length = s.L.length → w.ownsRow 0 4 1 (.slice (some ⟨g, 0, none⟩) s.L.length cap) s.L.length (boos U) →
    Calls Try.prog 93 #[.pointer (some ⟨y.tb, 0, none⟩), i6 a, .slice (some ⟨g, 0, none⟩) s.L.length cap] w fun e w' => e = .returned (.tuple #[]) ∧ Marked w g cap s.L.length (markF s.L (f + 1) a U) w' := by
  intro f
  induction f with
  | zero =>
    intro a ha hal w U hT hU hrow
    have hm : markF s.L (0 + 1) a U = U := by rw [markF_succ, if_pos (by omega)]
    rw [hm]
    have HR : Hid (Marked w g cap s.L.length U w) := ⟨hrow, rfl, rfl, rfl, rfl, fun _ _ => rfl⟩
    have haI : (a : Int) < 2 := by omega
    clear hT hrow
    go_enter Try.func93, Try.ntmps93
    go_wp2
    exact bodyPost_ret (v := .tuple #[]) (by simp [results, Try.results93, go_sem]) rfl ⟨rfl, HR.out⟩
  | succ f ih =>
    intro a ha hal w U hT hU hrow
    by_cases ha2 : a < 2
    · have hm : markF s.L (f + 1 + 1) a U = U := by rw [markF_succ, if_pos (by omega)]
      rw [hm]
      have HR : Hid (Marked w g cap s.L.length U w) := ⟨hrow, rfl, rfl, rfl, rfl, fun _ _ => rfl⟩
      have haI : (a : Int) < 2 := by omega
      clear hT hrow ih
      go_enter Try.func93, Try.ntmps93
      go_wp2
      exact bodyPost_ret (v := .tuple #[]) (by simp [results, Try.results93, go_sem]) rfl ⟨rfl, HR.out⟩
    · obtain ⟨i, rfl⟩ : ∃ i, a = i + 2 := ⟨a - 2, by omega⟩
      have hi : i < s.L.length := by omega
      obtain ⟨x, hx⟩ : ∃ x, s.L[i]? = some x := ⟨s.L[i], List.getElem?_eq_getElem hi⟩
      obtain ⟨b, hb⟩ : ∃ b, b = U.getD i false := ⟨_, rfl⟩
      have cu : w.cell? ⟨g, i, none⟩ = some (.bool b) := by
        rw [hrow.cellAt i (by omega), hb]
        simp [boos, List.getD_eq_getElem?_getD, List.getElem?_eq_getElem (show i < U.length by omega)]
      have fzu := hrow.frozenAt i
      have e1 : ((i + 2 : Nat) : Int) = (i : Int) + 2 := by omega
      have hl : ¬ ((i : Int) + 2 < 2) := by omega
      have hI : (i : Int) < (s.L.length : Int) := by omega
      have hsm := hT.small.1
      cases b with
      | true =>
        have hm : markF s.L (f + 1 + 1) (i + 2) U = U := by rw [markF_succ, if_neg (by omega), Nat.add_sub_cancel, if_pos hb.symm]
        rw [hm]
        have HR : Hid (Marked w g cap s.L.length U w) := ⟨hrow, rfl, rfl, rfl, rfl, fun _ _ => rfl⟩
        simp only [i6, e1]
        generalize s.L.length = len at *
        clear hT hrow ih hm hb hU hx e1
        go_enter Try.func93, Try.ntmps93
        go_wp2
        exact bodyPost_ret (v := .tuple #[]) (by simp [results, Try.results93, go_sem]) rfl ⟨rfl, HR.out⟩
      | false =>
        have hfit := hT.okay.fit i _ hx
        have hm : markF s.L (f + 1 + 1) (i + 2) U = markF s.L (f + 1) x.2.2 (markF s.L (f + 1) x.2.1 (U.set i true)) := by
          rw [markF_succ, if_neg (by omega), Nat.add_sub_cancel, if_neg (by rw [← hb]; simp)]
          have e : s.L.getD i (0, 0, 0) = x := by rw [List.getD_eq_getElem?_getD, hx]; rfl
          rw [e]
        rw [hm]
        have hrow1 := (hrow.stored i (.bool true)).1
        rw [boos_set] at hrow1
        have M0 : Marked w g cap s.L.length (U.set i true) (w.setCell ⟨g, i, none⟩ (.bool true)) := ⟨hrow1, rfl, rfl, rfl, by simp, fun k hk => set_other _ hk⟩
        have keepT : ∀ {w1 : World} {V : List Bool}, Marked w g cap s.L.length V w1 → QTab w1 y s := fun hM => hT.same fun k hk => hM.block k (fun e => hg (by rw [← e]; exact hk))
        have T0 := keepT M0
        have c1 := ih x.2.1 (by omega) (by omega) _ (U.set i true) T0 (by rw [List.length_set]; exact hU) hrow1
        have HC1 := keep c1
        have c2' := hT.cell2
        obtain ⟨gn, capn, hv, n0, n1, n2⟩ := hT.node hx
        have hgn : gn ≠ g := fun e => hg (by rw [← e]; exact y.own_ns (by rw [hv]; rfl))
        have htb : y.tb ≠ g := fun e => hg (by rw [← e]; exact y.own_tb)
        rw [hv] at c2'
        have HNX : Hid (∀ w1, Marked w g cap s.L.length (markF s.L (f + 1) x.2.1 (U.set i true)) w1 → (w1.cell? ⟨y.tb, 2, none⟩ = some (.slice (some ⟨gn, 0, none⟩) s.L.length capn) ∧ w1.cell? ⟨gn, i * 3 + 2, none⟩ = some (.int .i64 x.2.2)) ∧
            Calls Try.prog 93 #[.pointer (some ⟨y.tb, 0, none⟩), i6 x.2.2, .slice (some ⟨g, 0, none⟩) s.L.length cap] w1 fun e w' => e = .returned (.tuple #[]) ∧ Marked w g cap s.L.length (markF s.L (f + 1) x.2.2 (markF s.L (f + 1) x.2.1 (U.set i true))) w') := fun w1 hM => by
          refine ⟨⟨by rw [World.cell?_of_block (hM.block _ htb)]; exact c2', by rw [World.cell?_of_block (hM.block _ hgn)]; exact n2⟩, ?_⟩
          refine (ih x.2.2 (by omega) (by omega) w1 _ (keepT hM) (by rw [markF_length, List.length_set]; exact hU) hM.row).mono ?_
          rintro e w' ⟨rfl, h⟩
          exact ⟨rfl, hM.trans h⟩
        have HM0 := keep M0
        simp only [i6, e1] at HC1 HNX ⊢
        generalize hlen : s.L.length = len at *
        clear hT hrow ih hm c1 hrow1 M0 T0 keepT hfit hb hU hx e1 hlen hv
        go_enter Try.func93, Try.ntmps93
        go_wp2_with fail
        refine HC1.out.mono ?_
        rintro e w1 ⟨rfl, h1⟩
        obtain ⟨⟨q2, q3⟩, q4⟩ := HNX.out w1 (HM0.out.trans h1)
        have HC2 := keep q4
        clear q4 h1
        go_wp2_with fail
        refine HC2.out.mono ?_
        rintro e w2 ⟨rfl, h2⟩
        have H2 := keep h2
        clear h2
        go_wp2
        go_end0
        exact ⟨rfl, H2.out⟩
end Go.Proofs.Ytffngpdngjfcfaa
