/-
  The document's action of a line.
-/
import Derived.Test.YtemmhingmeinjaaGreatDoorURdsAAnd
namespace Go.Proofs.YtemmhingmeinjaaGreatDoor
open Go.RowKit
open Wo (Wd)

structure LineOk (w : World) (g : Nat) (l : List Wd) : Prop where
  at_ : LineAt w g l
  pos : 0 < l.length
  small : ∀ x ∈ l, x.1.length ≤ 1048576 ∧ x.2.2 ≤ 1048577
  len : l.length ≤ 1048576
structure RfAt (w : World) (rb g : Nat) (l : List Wd) (i a b c : Nat) : Prop where
  blk : ∃ cap, w.heap[rb]? = some (.cells #[.slice (some ⟨g, 0, none⟩) l.length cap, .int .i64 i, .int .i64 a, .int .i64 b, .int .i64 c] 111 (0, 0))
  ok : LineOk w g l
  ne : g ≠ rb
  le : i ≤ l.length
abbrev atW (l : List Wd) (i : Nat) : Wd := Ru.nx (Ru.endW l) (l.drop i)
theorem atW_short {w : World} {g : Nat} {l : List Wd} (h : LineOk w g l) (i : Nat) : (atW l i).1.length ≤ 1048576 :=
  Short.nx ⟨Ru.endW_text l, fun x hx => (h.small x (List.mem_of_mem_drop hx)).1⟩
theorem RfAt.lt {w : World} {rb g : Nat} {l : List Wd} {i a b c : Nat} (h : RfAt w rb g l i a b c) : rb < w.heap.size := by
  obtain ⟨cap, hc⟩ := h.blk
  exact lt_of_block hc
theorem LineOk.kept {w w' : World} {g : Nat} {l : List Wd} (h : LineOk w g l) (he : w'.heap[g]? = w.heap[g]?) (hs : w.heap.size ≤ w'.heap.size) : LineOk w' g l := ⟨h.at_.kept he hs, h.pos, h.small, h.len⟩
theorem RfAt.on {w w' : World} {rb g : Nat} {l : List Wd} {i a b c : Nat} (h : RfAt w rb g l i a b c) (hb : Below w.heap.size w w') : RfAt w' rb g l i a b c := by
  obtain ⟨cap, hc⟩ := h.blk
  exact ⟨⟨cap, below_block hb hc (lt_of_block hc)⟩, h.ok.kept (hb.block _ h.ok.at_.1) hb.size, h.ne, h.le⟩
theorem RfAt.alloc {w : World} {rb g : Nat} {l : List Wd} {i a b c : Nat} (h : RfAt w rb g l i a b c) (o : Obj) : RfAt (w.alloc o) rb g l i a b c := h.on ((Below.refl _ _).alloc (Nat.le_refl _) _)
theorem RfAt.row {w w' : World} {rb g : Nat} {l : List Wd} {i a b c : Nat} {row : Option Nat} (h : RfAt w rb g l i a b c) (hg : w.grownBy w' row) (h1 : row ≠ some rb) (h2 : row ≠ some g) : RfAt w' rb g l i a b c := by
  obtain ⟨cap, hc⟩ := h.blk
  exact ⟨⟨cap, (hg.block _ (lt_of_block hc) (fun e => h1 e.symm)).trans hc⟩, h.ok.kept (hg.block _ h.ok.at_.1 (fun e => h2 e.symm)) hg.size, h.ne, h.le⟩
theorem wdrop_at {l : List Wd} {i : Nat} (h : i < l.length) : l.drop i = l[i] :: l.drop (i + 1) := List.drop_eq_getElem_cons h
theorem atW_in {l : List Wd} {i : Nat} (h : i < l.length) : atW l i = l[i] := by unfold atW; rw [wdrop_at h]; rfl
theorem atW_out {l : List Wd} : atW l l.length = Ru.endW l := by unfold atW; simp

set_option maxHeartbeats 1000000 in
theorem Word_any {w : World} {rb g : Nat} {l : List Wd} {i a b c : Nat} (h : RfAt w rb g l i a b c) :
    Calls Tryz.prog 82 #[.pointer (some ⟨rb, 0, none⟩)] w fun en w' => en = .returned (wv (atW l i)) ∧ Below w.heap.size w w' := by
  obtain ⟨cap, hc⟩ := h.blk
  have hlt := lt_of_block hc
  have c0 := cell_at (o := 0) hc
  have c1 := cell_at (o := 1) hc
  simp only [List.getElem?_toArray, List.getElem?_cons_succ, List.getElem?_cons_zero] at c0 c1
  have a0 := alloc_cell c0 hlt
  have a1 := alloc_cell c1 hlt
  have hgl := h.ok.at_.1
  have hle := h.le
  have hlen := h.ok.len
  by_cases hi : i < l.length
  · rw [atW_in hi]
    obtain ⟨q1, q2, q3⟩ := h.ok.at_.2 i l[i] (List.getElem?_eq_getElem hi)
    obtain ⟨x, hx⟩ : ∃ x, x = l[i] := ⟨_, rfl⟩
    rw [← hx] at q1 q2 q3 ⊢
    have b1 := alloc_cell q1 hgl
    have b2 := alloc_cell q2 hgl
    have b3 := alloc_cell q3 hgl
    have hiI : (i : Int) < (l.length : Int) := by omega
    have hi0 : (0 : Int) ≤ (i : Int) := by omega
    clear h hc hx
    go_enter Tryz.func82, Tryz.ntmps82
    go_wp2
    go_quiet (fail)
    go_wp2_with fail
    go_region
    go_wp2
    refine bodyPost_ret (v := wv x) (by simp [results, Tryz.results82, go_sem]) rfl ?_
    exact ⟨rfl, (((below_drewN ((Below.refl _ _).alloc (Nat.le_refl _) _)).setCell (by simp) _).setCell (by simp) _).setCell (by simp) _⟩
  · have hin : i = l.length := by omega
    subst hin
    rw [atW_out]
    have hpos := h.ok.pos
    obtain ⟨x, hx⟩ : ∃ x, l[l.length - 1]? = some x := ⟨l[l.length - 1]'(by omega), List.getElem?_eq_getElem (by omega)⟩
    rw [endW_last hx]
    obtain ⟨q1, q2, q3⟩ := h.ok.at_.2 _ x hx
    have hxm := h.ok.small x (List.mem_of_getElem? hx)
    obtain ⟨n, hn⟩ : ∃ n, l.length = n + 1 := ⟨l.length - 1, by omega⟩
    have en : l.length - 1 = n := by omega
    rw [en] at q1 q2 q3
    rw [hn] at a0 a1 c0 c1
    have b1 := alloc_cell q1 hgl
    have b2 := alloc_cell q2 hgl
    have b3 := alloc_cell q3 hgl
    have hnI : (n : Int) ≤ 1048575 := by omega
    have hn0 : (0 : Int) ≤ (n : Int) := by omega
    have hxI : (x.2.2 : Int) + (x.1.length : Int) ≤ 2097153 := by omega
    have hx0 : (0 : Int) ≤ (x.2.2 : Int) + (x.1.length : Int) := by omega
    clear h hc hx hi hle hn en hlen hpos hxm q1 q2 q3
    go_enter Tryz.func82, Tryz.ntmps82
    go_wp2
    go_quiet (fail)
    go_wp2_with fail
    go_region
    go_wp2
    refine bodyPost_ret (v := wv ([], x.2.1, x.2.2 + x.1.length)) (by simp [results, Tryz.results82, go_sem]) rfl ?_
    have hb := (((below_drewN (n := nq + 1) ((Below.refl w.heap.size w).alloc (Nat.le_refl _) (.cells #[.string ⟨#[]⟩, .int .i64 0, .int .i64 0] 143))).setCell (p := ⟨w.heap.size, 0, none⟩) (by simp) (.string ⟨#[]⟩)).setCell (p := ⟨w.heap.size, 1, none⟩) (by simp) (.int .i64 x.2.1)).setCell (p := ⟨w.heap.size, 2, none⟩) (by simp) (.int .i64 ((x.2.2 : Int) + (x.1.length : Int)))
    exact ⟨by simp, hb.alloc hb.size _⟩

theorem RfAt.cells {w : World} {rb g : Nat} {l : List Wd} {i a b c : Nat} (h : RfAt w rb g l i a b c) : w.cell? ⟨rb, 1, none⟩ = some (.int .i64 i) ∧ w.cell? ⟨rb, 2, none⟩ = some (.int .i64 a) ∧ w.cell? ⟨rb, 3, none⟩ = some (.int .i64 b) ∧ w.cell? ⟨rb, 4, none⟩ = some (.int .i64 c) ∧ w.frozen? ⟨rb, 1, none⟩ = false ∧ w.frozen? ⟨rb, 2, none⟩ = false ∧ w.frozen? ⟨rb, 3, none⟩ = false ∧ w.frozen? ⟨rb, 4, none⟩ = false := by
  obtain ⟨cap, hc⟩ := h.blk
  exact ⟨by rw [cell_at hc]; rfl, by rw [cell_at hc]; rfl, by rw [cell_at hc]; rfl, by rw [cell_at hc]; rfl, free_of hc, free_of hc, free_of hc, free_of hc⟩
theorem RfAt.fault {w : World} {rb g : Nat} {l : List Wd} {i a b c : Nat} (h : RfAt w rb g l i a b c) (a' b' c' : Nat) : RfAt (((w.setCell ⟨rb, 4, none⟩ (.int .i64 c')).setCell ⟨rb, 2, none⟩ (.int .i64 a')).setCell ⟨rb, 3, none⟩ (.int .i64 b')) rb g l i a' b' c' := by
  obtain ⟨cap, hc⟩ := h.blk
  refine ⟨⟨cap, ?_⟩, h.ok.kept ?_ (by simp), h.ne, h.le⟩
  · rw [block_set (o := 3) _ (block_set (o := 2) _ (block_set (o := 4) _ hc))]; rfl
  · rw [Below.heap_setCell _ _ _ _ h.ne, Below.heap_setCell _ _ _ _ h.ne, Below.heap_setCell _ _ _ _ h.ne]
theorem RfAt.step {w : World} {rb g : Nat} {l : List Wd} {i a b c : Nat} (h : RfAt w rb g l i a b c) (i' : Nat) (hi : i' ≤ l.length) : RfAt (w.setCell ⟨rb, 1, none⟩ (.int .i64 i')) rb g l i' a b c := by
  obtain ⟨cap, hc⟩ := h.blk
  refine ⟨⟨cap, ?_⟩, h.ok.kept ?_ (by simp), h.ne, hi⟩
  · rw [block_set (o := 1) _ hc]; rfl
  · rw [Below.heap_setCell _ _ _ _ h.ne]

set_option maxHeartbeats 1000000 in
theorem Fail_any {w : World} {rb g : Nat} {l : List Wd} {i a b : Nat} (h : RfAt w rb g l i a b 0) (e : Nat) :
    Calls Tryz.prog 47 #[.pointer (some ⟨rb, 0, none⟩), .int .i64 e] w fun en w' => en = .returned (.tuple #[]) ∧ RfAt w' rb g l i (atW l i).2.1 (atW l i).2.2 e ∧ w.grownBy w' (some rb) := by
  have HW := hid (Word_any h)
  have HR := hid h
  obtain ⟨_, _, _, c4, _⟩ := h.cells
  obtain ⟨x, hx⟩ : ∃ x, x = atW l i := ⟨_, rfl⟩
  rw [← hx] at HW ⊢
  clear hx h
  go_enter Tryz.func47, Tryz.ntmps47
  go_wp2_with fail
  refine HW.out.mono ?_
  rintro en w1 ⟨rfl, hb1⟩
  have R1 := hid ((HR.out.on hb1).alloc (wob x))
  obtain ⟨k1, k2, k3, k4, f1, f2, f3, f4⟩ := R1.out.cells
  have HB := hid hb1
  clear hb1
  have hne : rb ≠ w1.heap.size := by have := HR.out.lt; have := HB.out.size; omega
  have hne' : w1.heap.size ≠ rb := fun q => hne q.symm
  go_wp2_with fail
  go_region_held2 (fun w' => w'.cell? ⟨w1.heap.size, 1, none⟩ = some (.int .i64 x.2.1) ∧ w'.cell? ⟨w1.heap.size, 2, none⟩ = some (.int .i64 x.2.2)) (go_keep) (fail)
  go_wp2
  go_end0
  exact ⟨rfl, (R1.out.fault _ _ _).on (Below.refl _ _).drew, grown_two (grown_two (grown_two (grown_two (grown_two (grown_of_below _ HB.out) (grown_alloc _ _ _)) (grown_set _ _ _ _)) (grown_set _ _ _ _)) (grown_set _ _ _ _)) (grown_of_below _ (Below.refl _ _).drew)⟩

theorem atW_lt {l : List Wd} {i : Nat} (hi : i ≤ l.length) (h : (atW l i).1 ≠ []) : i < l.length := by
  rcases Nat.lt_or_ge i l.length with h1 | h1
  · exact h1
  · have : i = l.length := by omega
    subst this
    rw [atW_out, Ru.endW_text] at h
    exact absurd rfl h

theorem wv_text (x : Wd) (w : World) : (Instr.field 143 (wv x) 0).run Tryz.prog w = .ok (.string (tx x.1)) w := by kernel_rfl
set_option maxHeartbeats 1000000 in
theorem Must_any {w : World} {rb g : Nat} {l : List Wd} {i a b : Nat} (h : RfAt w rb g l i a b 0) (s : List UInt8) (hs : s ≠ []) (e : Nat) :
    Calls Tryz.prog 80 #[.pointer (some ⟨rb, 0, none⟩), .string (tx s), .int .i64 e] w fun en w' => en = .returned (.tuple #[]) ∧
      (((atW l i).1 = s ∧ RfAt w' rb g l (i + 1) a b 0) ∨ ((atW l i).1 ≠ s ∧ RfAt w' rb g l i (atW l i).2.1 (atW l i).2.2 e)) ∧ w.grownBy w' (some rb) := by
  have HW := hid (Word_any h)
  have HR := hid h
  obtain ⟨_, _, _, c4, _⟩ := h.cells
  have HI := hid (fun q : (atW l i).1 = s => atW_lt h.le (by rw [q]; exact hs))
  have hlen := h.ok.len
  have hle := h.le
  obtain ⟨x, hx⟩ : ∃ x, x = atW l i := ⟨_, rfl⟩
  have HF := hid (fun w' (h' : RfAt w' rb g l i a b 0) => Fail_any h' e)
  rw [← hx] at HW HI HF ⊢
  clear hx h
  have hfl := wv_text x
  by_cases hq : x.1 = s
  · have hb : (x.1 == s) = true := by simpa using hq
    have HQ := hid hq
    have hlt := HI.out hq
    have hiI : (i : Int) ≤ 1048576 := by omega
    have hi0 : (0 : Int) ≤ (i : Int) := by omega
    clear hq
    go_enter Tryz.func80, Tryz.ntmps80
    go_wp2_with fail
    refine HW.out.mono ?_
    rintro en w1 ⟨rfl, hb1⟩
    have R1 := hid (HR.out.on hb1)
    obtain ⟨k1, k2, k3, k4, f1, f2, f3, f4⟩ := R1.out.cells
    have HB := hid hb1
    clear hb1
    go_wp2
    go_end0
    exact ⟨rfl, Or.inl ⟨HQ.out, (R1.out.step (i + 1) hlt)⟩, grown_two (grown_of_below _ HB.out) (grown_set _ _ _ _)⟩
  · have hb : (x.1 == s) = false := by simpa using hq
    have HQ := hid hq
    clear hq
    go_enter Tryz.func80, Tryz.ntmps80
    go_wp2_with fail
    refine HW.out.mono ?_
    rintro en w1 ⟨rfl, hb1⟩
    have R1 := hid (HR.out.on hb1)
    have HB := hid hb1
    clear hb1
    go_wp2_with fail
    refine (HF.out _ R1.out).mono ?_
    rintro en w2 ⟨rfl, r2, g2⟩
    have H2 := hid (And.intro r2 g2)
    clear r2 g2
    go_wp2
    refine bodyPost_ret (v := .tuple #[]) (by simp [results, Tryz.results80, go_sem]) rfl ?_
    exact ⟨rfl, Or.inr ⟨HQ.out, H2.out.1⟩, grown_two (grown_of_below _ HB.out) H2.out.2⟩
set_option maxHeartbeats 1000000 in
theorem Must_bad {w : World} {rb g : Nat} {l : List Wd} {i a b c : Nat} (h : RfAt w rb g l i a b c) (hc : c ≠ 0) (s : Value) (e : Nat) :
    Calls Tryz.prog 80 #[.pointer (some ⟨rb, 0, none⟩), s, .int .i64 e] w fun en w' => en = .returned (.tuple #[]) ∧ w' = w := by
  obtain ⟨_, _, _, c4, _⟩ := h.cells
  have hcI : ¬ ((c : Int) = 0) := by omega
  have hcN : ¬ (c = 0) := hc
  clear h hc
  go_enter Tryz.func80, Tryz.ntmps80
  go_wp2
  refine bodyPost_ret (v := .tuple #[]) (by simp [results, Tryz.results80, go_sem]) rfl ?_
  exact ⟨rfl, rfl⟩
end Go.Proofs.YtemmhingmeinjaaGreatDoor
namespace Go.Proofs.YtemmhingmeinjaaGreatDoor
open Go.RowKit
open Wo (Wd)

theorem ins_not {p : List (List UInt8)} {s : List UInt8} (h : ∀ x ∈ p, ¬ s < x) : Ru.ins p s = p ++ [s] := by
  induction p with
  | nil => rfl
  | cons a t ih =>
    unfold Ru.ins
    rw [if_neg (h a List.mem_cons_self), ih (fun x hx => h x (List.mem_cons_of_mem _ hx))]
    rfl
theorem ins_first {p : List (List UInt8)} {s a : List UInt8} (h : ∀ x ∈ p, ¬ s < x) (ha : s < a) : Ru.ins (p ++ [a]) s = p ++ [s, a] := by
  induction p with
  | nil => show Ru.ins [a] s = _; unfold Ru.ins; rw [if_pos ha]; rfl
  | cons b t ih =>
    show Ru.ins (b :: (t ++ [a])) s = _
    unfold Ru.ins
    rw [if_neg (h b List.mem_cons_self), ih (fun x hx => h x (List.mem_cons_of_mem _ hx))]
    rfl
theorem ins_done {p : List (List UInt8)} {s : List UInt8} (a : List UInt8) (h : ∃ x ∈ p, s < x) : Ru.ins (p ++ [a]) s = Ru.ins p s ++ [a] := by
  induction p with
  | nil => obtain ⟨x, hx, _⟩ := h; exact absurd hx (by simp)
  | cons b t ih =>
    show Ru.ins (b :: (t ++ [a])) s = _
    unfold Ru.ins
    by_cases hb : s < b
    · rw [if_pos hb, if_pos hb]; rfl
    · rw [if_neg hb, if_neg hb]
      have : ∃ x ∈ t, s < x := by
        obtain ⟨x, hx, hlt⟩ := h
        rcases List.mem_cons.1 hx with rfl | hx
        · exact absurd hlt hb
        · exact ⟨x, hx, hlt⟩
      rw [ih this]; rfl
def putTo (p : List (List UInt8)) (s : List UInt8) (done : Bool) : List (List UInt8) := if done then Ru.ins p s else p
def doneAt (p : List (List UInt8)) (s : List UInt8) : Bool := p.any fun x => decide (s < x)
theorem done_true {p : List (List UInt8)} {s : List UInt8} (h : doneAt p s = true) : ∃ x ∈ p, s < x := by
  simpa [doneAt] using h
theorem done_false {p : List (List UInt8)} {s : List UInt8} (h : doneAt p s = false) : ∀ x ∈ p, ¬ s < x := by
  simpa [doneAt] using h
theorem done_snoc (p : List (List UInt8)) (s a : List UInt8) : doneAt (p ++ [a]) s = (doneAt p s || decide (s < a)) := by simp [doneAt]

theorem take_snocL {zs : List (List UInt8)} {k : Nat} (h : k < zs.length) : zs.take (k + 1) = zs.take k ++ [zs[k]] := List.take_succ_eq_append_getElem h
theorem putTo_len (p : List (List UInt8)) (s : List UInt8) (d : Bool) : (putTo p s d).length ≤ p.length + 1 := by
  unfold putTo
  split
  · have : ∀ q : List (List UInt8), (Ru.ins q s).length = q.length + 1 := by
      intro q
      induction q with
      | nil => rfl
      | cons b t ih =>
        unfold Ru.ins
        split
        · rfl
        · simp only [List.length_cons, ih]
    rw [this]; omega
  · omega
structure PuInv (w : World) (zs : List (List UInt8)) (s : List UInt8) (k : Nat) (v : Value) (d : Bool) (wr : World) : Prop where
  le : k ≤ zs.length
  non : s ∉ zs.take k
  fl : d = doneAt (zs.take k) s
  own : wr.ownsRow w.heap.size 9 1 v (putTo (zs.take k) s d).length (svs (putTo (zs.take k) s d))
  below : Below w.heap.size w wr
theorem PuInv.fin {w : World} {zs : List (List UInt8)} {s : List UInt8} {v : Value} {d : Bool} {wr : World} (h : PuInv w zs s zs.length v d wr) : Ru.put zs s = putTo zs s d ++ (if d then [] else [s]) := by
  have hn := h.non
  have hf := h.fl
  rw [List.take_length] at hn hf
  unfold Ru.put
  rw [if_neg hn]
  cases d with
  | true => simp [putTo]
  | false =>
    rw [ins_not (done_false hf.symm)]
    simp [putTo]
section
variable {w : World} {zs : List (List UInt8)} {s a : List UInt8} {k : Nat} {v v' v6 : Value} {wr w5 w6 : World} {o o5 : Obj} {m : Nat} {xs : List Value}
theorem mem_snoc_not {p : List (List UInt8)} (h : s ∉ p) (hq : a ≠ s) : s ∉ p ++ [a] := by
  intro q
  rcases List.mem_append.1 q with q | q
  · exact h q
  · exact hq (List.mem_singleton.1 q).symm
theorem PuInv.onT (J : PuInv w zs s k v true wr) (hk : k < zs.length) (ht : zs.take (k + 1) = zs.take k ++ [a]) (hq : a ≠ s) (hm : m = (putTo (zs.take k) s true).length) (hx : xs = svs (putTo (zs.take k) s true))
    (ho : w5.ownsRow w.heap.size 9 1 v' (m + 1) (xs ++ [.string (tx a)])) (hg : (wr.alloc o).grownBy w5 v.ownBlock) : PuInv w zs s (k + 1) v' true w5 := by
  have e : putTo (zs.take (k + 1)) s true = putTo (zs.take k) s true ++ [a] := by
    rw [ht]; exact ins_done a (done_true J.fl.symm)
  refine ⟨hk, by rw [ht]; exact mem_snoc_not J.non hq, by rw [ht, done_snoc, ← J.fl]; rfl, ?_, (J.below.alloc J.below.size _).grown hg (by have := J.below.size; simp; omega) (fun q hq => (J.own.lt q hq).1)⟩
  rw [e, svs_snoc, List.length_append, List.length_singleton, ← hm, ← hx]; exact ho
theorem PuInv.onN (J : PuInv w zs s k v false wr) (hk : k < zs.length) (ht : zs.take (k + 1) = zs.take k ++ [a]) (hq : a ≠ s) (hs : ¬ s < a) (hm : m = (putTo (zs.take k) s false).length) (hx : xs = svs (putTo (zs.take k) s false))
    (ho : w5.ownsRow w.heap.size 9 1 v' (m + 1) (xs ++ [.string (tx a)])) (hg : (wr.alloc o).grownBy w5 v.ownBlock) : PuInv w zs s (k + 1) v' false w5 := by
  have e : putTo (zs.take (k + 1)) s false = putTo (zs.take k) s false ++ [a] := by rw [ht]; rfl
  refine ⟨hk, by rw [ht]; exact mem_snoc_not J.non hq, by rw [ht, done_snoc, ← J.fl]; simp [hs], ?_, (J.below.alloc J.below.size _).grown hg (by have := J.below.size; simp; omega) (fun q hq => (J.own.lt q hq).1)⟩
  rw [e, svs_snoc, List.length_append, List.length_singleton, ← hm, ← hx]; exact ho
theorem PuInv.onS (J : PuInv w zs s k v false wr) (hk : k < zs.length) (ht : zs.take (k + 1) = zs.take k ++ [a]) (hq : a ≠ s) (hs : s < a) (hm : m = (putTo (zs.take k) s false).length) (hx : xs = svs (putTo (zs.take k) s false))
    (ho : w5.ownsRow w.heap.size 9 1 v' (m + 1) (xs ++ [.string (tx s)])) (hg : (wr.alloc o).grownBy w5 v.ownBlock)
    (ho6 : w6.ownsRow w.heap.size 9 1 v6 (m + 1 + 1) (xs ++ [.string (tx s)] ++ [.string (tx a)])) (hg6 : (w5.alloc o5).grownBy w6 v'.ownBlock) : PuInv w zs s (k + 1) v6 true w6 := by
  have e : putTo (zs.take (k + 1)) s true = putTo (zs.take k) s false ++ [s] ++ [a] := by
    rw [ht]
    show Ru.ins (zs.take k ++ [a]) s = _
    rw [ins_first (done_false J.fl.symm) hs]
    simp [putTo]
  have b5 : Below w.heap.size w w5 := (J.below.alloc J.below.size _).grown hg (by have := J.below.size; simp; omega) (fun q hq => (J.own.lt q hq).1)
  refine ⟨hk, by rw [ht]; exact mem_snoc_not J.non hq, by rw [ht, done_snoc, ← J.fl]; simp [hs], ?_, (b5.alloc b5.size _).grown hg6 (by have := b5.size; simp; omega) (fun q hq => (ho.lt q hq).1)⟩
  rw [e, svs_snoc, svs_snoc, List.length_append, List.length_append, List.length_singleton, List.length_singleton, ← hm, ← hx]; exact ho6
end
theorem own_ports {w : World} {B : Nat} {v : Value} {zs : List (List UInt8)} (h : w.ownsRow B 9 1 v zs.length (svs zs)) : PortsV w B v zs := by
  rcases h.2 with ⟨rfl, h0⟩ | ⟨b, cap, cur, rfl, hb, hh, hn, _, _, ht⟩
  · exact Or.inl ⟨List.length_eq_zero_iff.1 h0, rfl⟩
  · refine Or.inr ⟨b, cap, rfl, hb, cur, hh, fun i z hz => ?_⟩
    have hi : i < zs.length := (List.getElem?_eq_some_iff.1 hz).1
    have : (cur.toList.take (zs.length * 1))[i]? = some (.string (tx z)) := by rw [ht]; simp [svs, hz]
    rw [List.getElem?_take, if_pos (by omega)] at this
    simpa using this

set_option maxRecDepth 4000 in
set_option maxHeartbeats 2000000 in
theorem put_some {w : World} {g cap : Nat} {zs : List (List UInt8)} (s : List UInt8) (hT : TxtAt w g zs) (hz : zs.length ≤ 1048576) :
    Calls Tryz.prog 118 #[.slice (some ⟨g, 0, none⟩) zs.length cap, .string (tx s)] w fun en w' => ∃ v, en = .returned v ∧ PortsV w' 0 v (Ru.put zs s) ∧ Below w.heap.size w w' := by
  obtain ⟨i0, hi, hz0, hz1, hz2⟩ := info_parts Tryz.infoStr
  have HI := hid hi
  have HZ0 := hid hz0
  have HZ1 := hid hz1
  have HZ2 := hid hz2
  clear hi hz0 hz1 hz2
  have HT := hid hT
  clear hT
  go_enter Tryz.func118, Tryz.ntmps118
  go_wp2_with fail
  go_loopw [5, 6, 7] (fun u d i wr => ∃ (k : Nat) (v : Value) (b : Bool), u = v ∧ d = .bool b ∧ i = .int .i64 k ∧ Hid (PuInv w zs s k v b wr)) (fun _ _ i _ => zs.length - (intOf i).toNat)
  case atStart => exact ⟨0, _, false, rfl, rfl, rfl, ⟨Nat.zero_le _, by simp, rfl, World.ownsRow_nil _ _ _ _, Below.refl _ _⟩⟩
  case round =>
    obtain ⟨k, v, b, rfl, rfl, rfl, J⟩ := hrel
    have hkle := J.out.le
    have hlen := putTo_len (zs.take k) s b
    rw [List.length_take] at hlen
    by_cases hlt : k < zs.length
    · have hkI : (k : Int) < (zs.length : Int) := by omega
      have hk0 : (0 : Int) ≤ (k : Int) := by omega
      have HT1 := HT.out.kept (w' := wr) (J.out.below.block _ HT.out.lt)
      have ck := HT1.cell (List.getElem?_eq_getElem hlt)
      have HTS := hid (take_snocL hlt)
      obtain ⟨a, ha⟩ : ∃ a, a = zs[k] := ⟨_, rfl⟩
      have HA := hid ha
      rw [← ha] at ck HTS
      by_cases hq : a = s
      · have hb : (a == s) = true := by simpa using hq
        have HP := hid (show Ru.put zs s = zs by unfold Ru.put; rw [if_pos (by rw [← hq, ha]; exact List.getElem_mem _)])
        have HT2 := hid HT1
        clear hq ha HT1
        go_wp2
        go_ret
        exact ⟨_, rfl, by rw [HP.out]; exact Or.inr ⟨g, cap, rfl, Nat.zero_le _, HT2.out⟩, J.out.below⟩
      · have hb : (a == s) = false := by simpa using hq
        have HQ := hid hq
        have hsz : w.heap.size ≤ wr.heap.size := J.out.below.size
        clear hq ha HT1
        obtain ⟨m, hm⟩ : ∃ m, m = (putTo (zs.take k) s b).length := ⟨_, rfl⟩
        obtain ⟨xs, hxs⟩ : ∃ xs, xs = svs (putTo (zs.take k) s b) := ⟨_, rfl⟩
        have HO0 := J.out.own
        rw [← hm, ← hxs] at HO0
        rw [← hm] at hlen
        obtain ⟨ao, vc, rfl⟩ := own_form HO0
        have HO := hid HO0
        have HM := hid hm
        have HXS := hid hxs
        clear HO0 hm hxs
        have hm1 : m ≤ 1048577 := by omega
        cases b with
        | true =>
          go_wp2_with (first | (at_builtin; refine wpList_append_own_at _ rfl _ _ 47 rfl w.heap.size 9 i0 (.string ByteArray.empty) 1 16 Tryz.underlying47 HI.out HZ0.out HZ1.out HZ2.out rfl (by decide) (.slice ao m vc) (m) (xs) rfl (HO.out.alloc _) ⟨wr.heap.size, 0, none⟩ 1 1 [.string (tx a)] rfl rfl (new_cells _ #[.string (tx a)] _ _ rfl) ?c2 ?c3 ?c4 ?c5 ?_))
          case c2 => simp [Value.oneCell']
          case c3 => unfold maxLen; omega
          case c4 => omega
          case c5 => simp; omega
          intro v' w5 hown5 hgrow5 _ _
          obtain ⟨a5, c5, rfl⟩ := own_form hown5
          have J5 := hid (J.out.onT (a := a) hlt HTS.out HQ.out HM.out HXS.out hown5 hgrow5)
          clear hown5 hgrow5
          go_wp2
          go_roundw
          case rel => exact ⟨k + 1, _, true, rfl, rfl, by go_num, J5.out⟩
          case measure => simp [intOf]; omega
        | false =>
          by_cases hs : s < a
          · have hs1 : Op.bytesLess s a = true := by rw [bytesLess_eq]; simpa using hs
            have HS := hid hs
            clear hs
            go_wp2_with (first | (at_builtin; refine wpList_append_own_at _ rfl _ _ 47 rfl w.heap.size 9 i0 (.string ByteArray.empty) 1 16 Tryz.underlying47 HI.out HZ0.out HZ1.out HZ2.out rfl (by decide) (.slice ao m vc) (m) (xs) rfl (HO.out.alloc _) ⟨wr.heap.size, 0, none⟩ 1 1 [.string (tx s)] rfl rfl (new_cells _ #[.string (tx s)] _ _ rfl) ?c2 ?c3 ?c4 ?c5 ?_))
            case c2 => simp [Value.oneCell']
            case c3 => unfold maxLen; omega
            case c4 => omega
            case c5 => simp; omega
            intro v' w5 hown5 hgrow5 _ _
            obtain ⟨a5, c5, rfl⟩ := own_form hown5
            have ck5 : w5.cell? ⟨g, k, none⟩ = some (.string (tx a)) := by
              have hgw := HT.out.lt
              have hgr : g < wr.heap.size := by have := J.out.below.size; omega
              have e1 : w5.heap[g]? = wr.heap[g]? := (hgrow5.block g (by simp; omega) (fun q => by have := (HO.out.lt g q.symm).1; omega)).trans (heap_old wr _ hgr)
              rw [World.cell?_of_block e1]
              exact ck
            have HO5 := hid hown5
            have HG5 := hid hgrow5
            have hsz5 : w.heap.size ≤ w5.heap.size := by have := hgrow5.size; simp at this; omega
            clear hown5 hgrow5
            go_wp2_with (first | (at_builtin; refine wpList_append_own_at _ rfl _ _ 47 rfl w.heap.size 9 i0 (.string ByteArray.empty) 1 16 Tryz.underlying47 HI.out HZ0.out HZ1.out HZ2.out rfl (by decide) (.slice a5 (m + 1) c5) (m + 1) (xs ++ [.string (tx s)]) rfl (HO5.out.alloc _) ⟨w5.heap.size, 0, none⟩ 1 1 [.string (tx a)] rfl rfl (new_cells _ #[.string (tx a)] _ _ rfl) ?c2 ?c3 ?c4 ?c5 ?_))
            case c2 => simp [Value.oneCell']
            case c3 => unfold maxLen; omega
            case c4 => omega
            case c5 => simp; omega
            intro v' w6 hown6 hgrow6 _ _
            obtain ⟨a6, c6, rfl⟩ := own_form hown6
            have J6 := hid (J.out.onS (a := a) hlt HTS.out HQ.out HS.out HM.out HXS.out HO5.out HG5.out (by simpa using hown6) hgrow6)
            clear hown6 hgrow6
            go_wp2
            go_roundw
            case rel => exact ⟨k + 1, _, true, rfl, rfl, by go_num, J6.out⟩
            case measure => simp [intOf]; omega
          · have hs1 : Op.bytesLess s a = false := by rw [bytesLess_eq]; simpa using hs
            have HS := hid hs
            clear hs
            go_wp2_with (first | (at_builtin; refine wpList_append_own_at _ rfl _ _ 47 rfl w.heap.size 9 i0 (.string ByteArray.empty) 1 16 Tryz.underlying47 HI.out HZ0.out HZ1.out HZ2.out rfl (by decide) (.slice ao m vc) (m) (xs) rfl (HO.out.alloc _) ⟨wr.heap.size, 0, none⟩ 1 1 [.string (tx a)] rfl rfl (new_cells _ #[.string (tx a)] _ _ rfl) ?c2 ?c3 ?c4 ?c5 ?_))
            case c2 => simp [Value.oneCell']
            case c3 => unfold maxLen; omega
            case c4 => omega
            case c5 => simp; omega
            intro v' w5 hown5 hgrow5 _ _
            obtain ⟨a5, c5, rfl⟩ := own_form hown5
            have J5 := hid (J.out.onN (a := a) hlt HTS.out HQ.out HS.out HM.out HXS.out hown5 hgrow5)
            clear hown5 hgrow5
            go_wp2
            go_roundw
            case rel => exact ⟨k + 1, _, false, rfl, rfl, by go_num, J5.out⟩
            case measure => simp [intOf]; omega
    · have hkn : k = zs.length := by omega
      subst hkn
      have hkI : ¬ ((zs.length : Int) < (zs.length : Int)) := by omega
      have HFin := hid J.out.fin
      have HO0 := J.out.own
      rw [List.take_length] at HO0
      obtain ⟨ao, vc, rfl⟩ := own_form HO0
      have hsz : w.heap.size ≤ wr.heap.size := J.out.below.size
      have hlen2 := putTo_len zs s b
      clear hlt hlen
      cases b with
      | true =>
        have HP := hid (own_ports HO0)
        clear HO0
        go_wp2
        go_ret
        refine ⟨_, rfl, ?_, J.out.below⟩
        rw [HFin.out]
        simpa using HP.out.mono (Nat.zero_le _)
      | false =>
        obtain ⟨m, hm⟩ : ∃ m, m = (putTo zs s false).length := ⟨_, rfl⟩
        obtain ⟨xs, hxs⟩ : ∃ xs, xs = svs (putTo zs s false) := ⟨_, rfl⟩
        rw [← hm, ← hxs] at HO0
        rw [← hm] at hlen2
        have HO := hid HO0
        have HM := hid hm
        have HXS := hid hxs
        rw [← hm]
        clear HO0 hm hxs
        have hm1 : m ≤ 1048577 := by omega
        go_wp2_with (first | (at_builtin; refine wpList_append_own_at _ rfl _ _ 47 rfl w.heap.size 9 i0 (.string ByteArray.empty) 1 16 Tryz.underlying47 HI.out HZ0.out HZ1.out HZ2.out rfl (by decide) (.slice ao m vc) (m) (xs) rfl (HO.out.alloc _) ⟨wr.heap.size, 0, none⟩ 1 1 [.string (tx s)] rfl rfl (new_cells _ #[.string (tx s)] _ _ rfl) ?c2 ?c3 ?c4 ?c5 ?_))
        case c2 => simp [Value.oneCell']
        case c3 => unfold maxLen; omega
        case c4 => omega
        case c5 => exact Nat.le_succ_of_le hsz
        intro v' w5 hown5 hgrow5 _ _
        obtain ⟨a5, c5, rfl⟩ := own_form hown5
        have HP := hid (show PortsV w5 w.heap.size (.slice a5 (m + 1) c5) (putTo zs s false ++ [s]) from own_ports (by
          rw [svs_snoc, List.length_append, List.length_singleton, ← HM.out, ← HXS.out]; exact hown5))
        have HB := hid (show Below w.heap.size w w5 from (J.out.below.alloc J.out.below.size _).grown hgrow5 (by have := J.out.below.size; simp only [World.size_alloc]; omega) (fun q hq => (HO.out.lt q hq).1))
        clear hown5 hgrow5
        go_wp2
        go_ret
        refine ⟨_, rfl, ?_, HB.out⟩
        rw [HFin.out]
        simpa using HP.out.mono (Nat.zero_le _)

set_option maxRecDepth 4000 in
set_option maxHeartbeats 1000000 in
theorem put_none (w : World) (s : List UInt8) :
    Calls Tryz.prog 118 #[.slice none 0 0, .string (tx s)] w fun en w' => ∃ v, en = .returned v ∧ PortsV w' 0 v (Ru.put [] s) ∧ Below w.heap.size w w' := by
  obtain ⟨i0, hi, hz0, hz1, hz2⟩ := info_parts Tryz.infoStr
  have HI := hid hi
  have HZ0 := hid hz0
  have HZ1 := hid hz1
  have HZ2 := hid hz2
  clear hi hz0 hz1 hz2
  go_enter Tryz.func118, Tryz.ntmps118
  go_wp2_with fail
  refine wp_loop_rounds 1 ?_
  rw [rounds_succ]
  go_wp2_with (first | (at_builtin; refine wpList_append_own_at _ rfl _ _ 47 rfl w.heap.size 9 i0 (.string ByteArray.empty) 1 16 Tryz.underlying47 HI.out HZ0.out HZ1.out HZ2.out rfl (by decide) (.slice none 0 0) 0 [] rfl (World.ownsRow_nil _ _ _ _) ⟨w.heap.size, 0, none⟩ 1 1 [.string (tx s)] rfl rfl (new_cells _ #[.string (tx s)] _ _ rfl) ?c2 ?c3 ?c4 ?c5 ?_))
  case c2 => simp [Value.oneCell']
  case c3 => unfold maxLen; omega
  case c4 => omega
  case c5 => simp
  intro v' w5 hown5 hgrow5 _ _
  obtain ⟨a5, c5, rfl⟩ := own_form hown5
  have HP := hid (show PortsV w5 w.heap.size (.slice a5 (0 + 1) c5) [s] from own_ports hown5)
  have HB := hid (show Below w.heap.size w w5 from ((Below.refl _ _).alloc (Nat.le_refl _) _).grown hgrow5 (by simp) (fun q hq => by cases hq))
  clear hown5 hgrow5
  go_wp2
  go_ret
  exact ⟨_, rfl, HP.out.mono (Nat.zero_le _), HB.out⟩
theorem put_ports {w : World} {B : Nat} {v : Value} {zs : List (List UInt8)} (h : PortsV w B v zs) (s : List UInt8) (hz : zs.length ≤ 1048576) :
    Calls Tryz.prog 118 #[v, .string (tx s)] w fun en w' => ∃ v', en = .returned v' ∧ Hid (PortsV w' 0 v' (Ru.put zs s)) ∧ Hid (Below w.heap.size w w') := by
  rcases h with ⟨rfl, rfl⟩ | ⟨b, cap, rfl, _, hT⟩
  · exact put_none w s
  · exact put_some s hT hz
end Go.Proofs.YtemmhingmeinjaaGreatDoor
namespace Go.Proofs.YtemmhingmeinjaaGreatDoor
open Go.RowKit
open Wo (Wd)

def DActPost (w : World) (rb g : Nat) (l : List Wd) (i : Nat) (en : Ending) (w' : World) : Prop :=
  w.grownBy w' (some rb) ∧ ∃ (k : Nat) (v : Value), en = .returned (.agg #[.int .i64 k, v]) ∧ (∃ ao n cap, v = .slice ao n cap) ∧
    ((∃ ps j, Ru.act (Ru.endW l) (l.drop i) = .ok (k, ps, l.drop j) ∧ RfAt w' rb g l j 0 0 0 ∧ PortsV w' 0 v ps) ∨
     (∃ f j, Ru.act (Ru.endW l) (l.drop i) = .error f ∧ f.2.2 ≠ 0 ∧ RfAt w' rb g l j f.1 f.2.1 f.2.2))

theorem tail_drop (l : List Wd) (i : Nat) : (l.drop i).tail = l.drop (i + 1) := by simp
theorem grown_new {w w1 : World} {b o : Nat} {v : Value} {r : Option Nat} (h : w.grownBy w1 r) (hb : w.heap.size ≤ b) : w.grownBy (w1.setCell ⟨b, o, none⟩ v) r :=
  ⟨h.os, h.tape, h.output, by simpa using h.size, fun i hi hne => (Below.heap_setCell _ _ _ _ (by show i ≠ b; omega)).trans (h.block i hi hne)⟩
theorem RfAt.new {w : World} {rb g : Nat} {l : List Wd} {i a b c : Nat} (h : RfAt w rb g l i a b c) {B o : Nat} (v : Value) (h1 : B ≠ rb) (h2 : B ≠ g) : RfAt (w.setCell ⟨B, o, none⟩ v) rb g l i a b c :=
  h.row (grown_cell _ _ _ _) (by simpa using h1) (by simpa using h2)
structure DOn (w : World) (rb g : Nat) (l : List Wd) (j a b c : Nat) (wr : World) : Prop where
  rf : RfAt wr rb g l j a b c
  on : w.grownBy wr (some rb)
theorem DOn.alloc {w wr : World} {rb g : Nat} {l : List Wd} {j a b c : Nat} (h : DOn w rb g l j a b c wr) (o : Obj) : DOn w rb g l j a b c (wr.alloc o) := ⟨h.rf.alloc o, grown_two h.on (grown_alloc _ _ _)⟩
theorem DOn.below {w wr w1 : World} {rb g : Nat} {l : List Wd} {j a b c : Nat} (h : DOn w rb g l j a b c wr) (hb : Below wr.heap.size wr w1) : DOn w rb g l j a b c w1 := ⟨h.rf.on hb, grown_two h.on (grown_of_below _ hb)⟩
theorem DOn.step {w wr : World} {rb g : Nat} {l : List Wd} {j a b c : Nat} (h : DOn w rb g l j a b c wr) (j' : Nat) (hj : j' ≤ l.length) : DOn w rb g l j' a b c (wr.setCell ⟨rb, 1, none⟩ (.int .i64 j')) := ⟨h.rf.step j' hj, grown_two h.on (grown_set _ _ _ _)⟩
theorem DOn.new {w wr : World} {rb g : Nat} {l : List Wd} {j a b c : Nat} (h : DOn w rb g l j a b c wr) {B o : Nat} (v : Value) (hr : rb < w.heap.size) (hg : g < w.heap.size) (hB : w.heap.size ≤ B) : DOn w rb g l j a b c (wr.setCell ⟨B, o, none⟩ v) := ⟨h.rf.new v (by omega) (by omega), grown_new h.on hB⟩
theorem DOn.word {w wr : World} {rb g : Nat} {l : List Wd} {j a b c : Nat} (h : DOn w rb g l j a b c wr) : Calls Tryz.prog 82 #[.pointer (some ⟨rb, 0, none⟩)] wr fun en w' => en = .returned (wv (atW l j)) ∧ Hid (Below wr.heap.size wr w') ∧ Hid (DOn w rb g l j a b c w') :=
  (Word_any h.rf).mono fun _ _ q => ⟨q.1, q.2, h.below q.2⟩
theorem DOn.fail {w wr : World} {rb g : Nat} {l : List Wd} {j a b : Nat} (h : DOn w rb g l j a b 0 wr) (e : Nat) : Calls Tryz.prog 47 #[.pointer (some ⟨rb, 0, none⟩), .int .i64 e] wr fun en w' => en = .returned (.tuple #[]) ∧ Hid (wr.grownBy w' (some rb)) ∧ Hid (DOn w rb g l j (atW l j).2.1 (atW l j).2.2 e w') :=
  (Fail_any h.rf e).mono fun _ _ q => ⟨q.1, q.2.2, q.2.1, grown_two h.on q.2.2⟩
theorem DOn.must {w wr : World} {rb g : Nat} {l : List Wd} {j a b : Nat} (h : DOn w rb g l j a b 0 wr) (s : List UInt8) (hs : s ≠ []) (e : Nat) : Calls Tryz.prog 80 #[.pointer (some ⟨rb, 0, none⟩), .string (tx s), .int .i64 e] wr fun en w' => en = .returned (.tuple #[]) ∧ Hid (wr.grownBy w' (some rb)) ∧
    ((Hid ((atW l j).1 = s) ∧ Hid (DOn w rb g l (j + 1) a b 0 w')) ∨ (Hid ((atW l j).1 ≠ s) ∧ Hid (DOn w rb g l j (atW l j).2.1 (atW l j).2.2 e w'))) :=
  (Must_any h.rf s hs e).mono fun _ _ q => ⟨q.1, q.2.2, q.2.1.elim (fun t => Or.inl ⟨t.1, t.2, grown_two h.on q.2.2⟩) (fun t => Or.inr ⟨t.1, t.2, grown_two h.on q.2.2⟩)⟩
theorem act_none {l : List Wd} {i : Nat} {x : Wd} (hx : x = atW l i) (h1 : x.1 ≠ [100, 114, 111, 112]) (h2 : x.1 ≠ [100, 101, 108, 105, 118, 101, 114]) (h3 : x.1 ≠ [97, 108, 108]) (h4 : x.1 ≠ [97, 110, 121]) : Ru.act (Ru.endW l) (l.drop i) = .error (Ru.ft x 51) := by
  rw [hx] at h1 h2 h3 h4 ⊢
  exact act_51 (by unfold Ru.kindN; rw [if_neg h1, if_neg h2, if_neg h3, if_neg h4])
theorem act_one {l : List Wd} {i : Nat} {x : Wd} (hx : x = atW l i) (h1 : x.1 = [100, 114, 111, 112]) : Ru.act (Ru.endW l) (l.drop i) = .ok (1, [], l.drop (i + 1)) := by
  rw [hx] at h1
  rw [act_low (k := 1) (by unfold Ru.kindN; rw [if_pos h1]) (Or.inl rfl), tail_drop]
theorem act_two {l : List Wd} {i : Nat} {x : Wd} (hx : x = atW l i) (h1 : x.1 = [100, 101, 108, 105, 118, 101, 114]) : Ru.act (Ru.endW l) (l.drop i) = .ok (2, [], l.drop (i + 1)) := by
  rw [hx] at h1
  rw [act_low (k := 2) (by unfold Ru.kindN; rw [if_neg (by rw [h1]; decide), if_pos h1]) (Or.inr rfl), tail_drop]
theorem act_three {l : List Wd} {i : Nat} {x : Wd} (hx : x = atW l i) (h1 : x.1 = [97, 108, 108]) : Ru.kindN (Ru.nx (Ru.endW l) (l.drop i)).1 = 3 := by
  rw [hx] at h1
  unfold Ru.kindN; rw [if_neg (by rw [h1]; decide), if_neg (by rw [h1]; decide), if_pos h1]
theorem act_four {l : List Wd} {i : Nat} {x : Wd} (hx : x = atW l i) (h1 : x.1 = [97, 110, 121]) : Ru.kindN (Ru.nx (Ru.endW l) (l.drop i)).1 = 4 := by
  rw [hx] at h1
  unfold Ru.kindN; rw [if_neg (by rw [h1]; decide), if_neg (by rw [h1]; decide), if_neg (by rw [h1]; decide), if_pos h1]
theorem act_err {l : List Wd} {i k : Nat} {f : Ru.Ft} (hk : Ru.kindN (Ru.nx (Ru.endW l) (l.drop i)).1 = k) (h : k = 3 ∨ k = 4) (hp : Ru.prt (Ru.endW l) (l.drop (i + 1)) = .error f) : Ru.act (Ru.endW l) (l.drop i) = .error f := by
  rw [act_high hk h, tail_drop, hp]
theorem act_ok {l : List Wd} {i k : Nat} {ps : List (List UInt8)} {t : List Wd} (hk : Ru.kindN (Ru.nx (Ru.endW l) (l.drop i)).1 = k) (h : k = 3 ∨ k = 4) (hp : Ru.prt (Ru.endW l) (l.drop (i + 1)) = .ok (ps, t)) : Ru.act (Ru.endW l) (l.drop i) = .ok (k, ps, t) := by
  rw [act_high hk h, tail_drop, hp]
theorem uRName (l : List UInt8) (w : World) (h : l.length ≤ 1048576) : Calls Tryz.prog 99 #[.string (tx l)] w fun e w' => e = .returned (.bool (Wo.nameB l)) ∧ w' = w := by
  have := RName_any (tx l) w (by rw [tx_size]; unfold maxLen; omega)
  rw [tx_list] at this
  exact this
theorem nrm_le (acc : List (List UInt8)) : (Ru.nrm acc).length ≤ acc.length := by
  have key : ∀ (q p : List (List UInt8)), (q.foldl Ru.put p).length ≤ p.length + q.length := by
    intro q
    induction q with
    | nil => intro p; simp
    | cons a t ih =>
      intro p
      have h1 := ih (Ru.put p a)
      have h2 : (Ru.put p a).length ≤ p.length + 1 := by
        unfold Ru.put
        split
        · omega
        · have := putTo_len p a true
          exact this
      show (t.foldl Ru.put (Ru.put p a)).length ≤ _
      simp only [List.length_cons]
      omega
  have := key acc []
  simpa [Ru.nrm] using this
def posN (w : World) (rb : Nat) : Nat := match w.cell? ⟨rb, 1, none⟩ with
  | some (.int _ n) => n.toNat
  | _ => 0
theorem DOn.posN {w wr : World} {rb g : Nat} {l : List Wd} {j a b c : Nat} (h : DOn w rb g l j a b c wr) : posN wr rb = j := by
  have := h.rf.cells.1
  unfold Go.Proofs.YtemmhingmeinjaaGreatDoor.posN
  rw [this]; simp
structure DInv (w : World) (rb g : Nat) (l : List Wd) (i k ab j : Nat) (acc : List (List UInt8)) (v : Value) (wr : World) : Prop where
  on : DOn w rb g l j 0 0 0 wr
  res : wr.heap[w.heap.size]? = some (aob 0 (.slice none 0 0))
  ablk : wr.heap[ab]? = some (aob k v)
  ports : PortsV wr 0 v (Ru.nrm acc)
  few : acc.length ≤ j
  all : Ru.prt (Ru.endW l) (l.drop (i + 1)) = fin (Ru.pts (Ru.endW l) (l.drop j) acc)
theorem DInv.start {w w2 : World} {rb g : Nat} {l : List Wd} {i k ab : Nat} (h : (atW l (i + 1)).1 = [40]) (hd : DOn w rb g l (i + 1 + 1) 0 0 0 w2) (hr : w2.heap[w.heap.size]? = some (aob 0 (.slice none 0 0))) (ha : w2.heap[ab]? = some (aob k (.slice none 0 0))) : DInv w rb g l i k ab (i + 1 + 1) [] (.slice none 0 0) w2 := {
  on := hd
  res := hr
  ablk := ha
  ports := Or.inl ⟨rfl, rfl⟩
  few := by simp
  all := by
    unfold Ru.prt
    rw [if_neg (fun q => q h), tail_drop]
    rfl }
section
variable {w wr w1 : World} {rb g : Nat} {l : List Wd} {i k ab j : Nat} {acc : List (List UInt8)} {v : Value}
theorem DInv.fault31 (J : DInv w rb g l i k ab j acc v wr) {y : Wd} (hy : y = atW l j) (hn : Wo.nameB y.1 = false) : Ru.prt (Ru.endW l) (l.drop (i + 1)) = .error (Ru.ft y 31) := by
  rw [hy] at hn ⊢
  rw [J.all, Ru.pts_eq (Ru.endW_text l), if_pos hn]; rfl
theorem DInv.step1 (J : DInv w rb g l i k ab j acc v wr) {y : Wd} (hy : y = atW l j) (hn : Wo.nameB y.1 = true) : Ru.prt (Ru.endW l) (l.drop (i + 1)) = fin (Ru.ptsW (Ru.endW l) (atW l (j + 1)) (l.drop (j + 1 + 1)) (acc ++ [y.1])) := by
  rw [hy] at hn ⊢
  rw [J.all, Ru.pts_eq (Ru.endW_text l), if_neg (by rw [hn]; simp), tail_drop, tail_drop]
end
structure DBes (w : World) (k ab : Nat) (v : Value) (zs : List (List UInt8)) (W : World) : Prop where
  res : W.heap[w.heap.size]? = some (aob 0 (.slice none 0 0))
  ablk : W.heap[ab]? = some (aob k v)
  ports : PortsV W 0 v zs
theorem DBes.below {w W W' : World} {k ab : Nat} {v : Value} {zs : List (List UInt8)} (h : DBes w k ab v zs W) (hb : Below W.heap.size W W') : DBes w k ab v zs W' :=
  ⟨below_block hb h.res (lt_of_block h.res), below_block hb h.ablk (lt_of_block h.ablk), h.ports.kept fun b _ q _ => hb.block b (lt_of_block q)⟩
theorem DBes.grown {w W W' : World} {k ab rb g : Nat} {v : Value} {zs : List (List UInt8)} {l : List Wd} {j a b c : Nat} (h : DBes w k ab v zs W) (hr : RfAt W rb g l j a b c) (hg : W.grownBy W' (some rb)) (h1 : w.heap.size ≠ rb) (h2 : ab ≠ rb) : DBes w k ab v zs W' := by
  obtain ⟨cap, hc⟩ := hr.blk
  refine ⟨block_grow h.res hg h1, block_grow h.ablk hg h2, h.ports.kept fun b cs q _ => hg.block b (lt_of_block q) (fun e => ?_)⟩
  simp only [Option.some.injEq] at e
  subst e
  rw [hc] at q
  simp only [Option.some.injEq, Obj.cells.injEq] at q
  exact absurd q.2.1 (by decide)
theorem DBes.ports_set {w W : World} {k ab : Nat} {v v' : Value} {zs zs' : List (List UInt8)} (h : DBes w k ab v zs W) (hne : ab ≠ w.heap.size) (hp : PortsV W 0 v' zs') : DBes w k ab v' zs' (W.setCell ⟨ab, 1, none⟩ v') := by
  refine ⟨block_other _ h.res (fun e => hne e.symm), ?_, hp.kept fun b cs q _ => Below.heap_setCell _ _ _ _ (fun e => ?_)⟩
  · rw [block_set (o := 1) _ h.ablk]; rfl
  · have : b = ab := e
    rw [this, h.ablk] at q
    simp only [Option.some.injEq, Obj.cells.injEq] at q
    exact absurd q.2.1 (by decide)
theorem DInv.bes {w rb g l i k ab j acc v wr} (J : DInv w rb g l i k ab j acc v wr) : DBes w k ab v (Ru.nrm acc) wr := ⟨J.res, J.ablk, J.ports⟩
theorem fin_more {l : List Wd} {i j : Nat} {y2 : Wd} {acc : List (List UInt8)} (hp : Ru.prt (Ru.endW l) (l.drop (i + 1)) = fin (Ru.ptsW (Ru.endW l) y2 (l.drop (j + 1 + 1)) acc)) (h : y2.1 = [44]) : Ru.prt (Ru.endW l) (l.drop (i + 1)) = fin (Ru.pts (Ru.endW l) (l.drop (j + 1 + 1)) acc) := by
  rw [hp]; unfold Ru.ptsW; rw [if_pos h]
theorem fin_51 {l : List Wd} {i j : Nat} {y2 : Wd} {acc : List (List UInt8)} (hp : Ru.prt (Ru.endW l) (l.drop (i + 1)) = fin (Ru.ptsW (Ru.endW l) y2 (l.drop (j + 1 + 1)) acc)) (h : y2.1 ≠ [44]) (h2 : y2.1 ≠ [41]) : Ru.prt (Ru.endW l) (l.drop (i + 1)) = .error (Ru.ft y2 51) := by
  rw [hp]; unfold Ru.ptsW; rw [if_neg h, if_neg h2]; rfl
theorem fin_end {l : List Wd} {i j : Nat} {y2 : Wd} {acc : List (List UInt8)} (hp : Ru.prt (Ru.endW l) (l.drop (i + 1)) = fin (Ru.ptsW (Ru.endW l) y2 (l.drop (j + 1 + 1)) acc)) (h : y2.1 ≠ [44]) (h2 : y2.1 = [41]) : Ru.prt (Ru.endW l) (l.drop (i + 1)) = if 64 < (Ru.nrm acc).length then .error (Ru.ft y2 3) else .ok (Ru.nrm acc, l.drop (j + 1 + 1)) := by
  rw [hp]; unfold Ru.ptsW; rw [if_neg h, if_pos h2]; rfl
theorem PortsV.len {w : World} {B n cap : Nat} {ao : Option Addr} {zs : List (List UInt8)} (h : PortsV w B (.slice ao n cap) zs) : n = zs.length := by
  rcases h with ⟨rfl, e⟩ | ⟨b, c, e, _⟩
  · simp only [Value.slice.injEq] at e
    rw [e.2.1]; rfl
  · simp only [Value.slice.injEq] at e
    exact e.2.1
end Go.Proofs.YtemmhingmeinjaaGreatDoor
