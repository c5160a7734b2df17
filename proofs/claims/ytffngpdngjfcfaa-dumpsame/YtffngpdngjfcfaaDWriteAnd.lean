/-
  dump: the reader's nodes.
  The document's own table in memory.
  dump: the reader's head, end, nodes.
  dump: what is left of bytes; the number that the next ones say.
  Write: a function's bytes.
-/
import Derived.Test.YtffngpdngjfcfaaBNobodyAnd
import Derived.Test.YtffngpdngjfcfaaBCubesAAnd
import Derived.Laws.BitsAllLaws
import Derived.Test.YtffngpdngjfcfaaBPutAnd
namespace Go.Proofs.Ytffngpdngjfcfaa
open Go.RowKit Go.Maps
open Bd (Nd)

def nodeB (x : Nd) : List UInt8 := [UInt8.ofNat x.1] ++ four x.2.1 ++ four x.2.2
def headB (bits n : Nat) : List UInt8 := [UInt8.ofNat bits] ++ four n
/-- A function's bytes: r is its ref, where it is an end. -/
def dumpB (bits : Nat) (Q : List Nd) (r : Nat) : List UInt8 := headB bits Q.length ++ (if Q.length = 0 then [UInt8.ofNat r] else Q.flatMap nodeB)
theorem one_val (n : Nat) (hn : n ≤ 255) : byts [UInt8.ofNat n] = [.int .u8 (n : Int)] := by
  have e : ((UInt8.ofNat n).toNat : Int) = (n : Int) := by
    have : (UInt8.ofNat n).toNat = n % 256 := by simp [UInt8.toNat_ofNat']
    rw [this]; omega
  simp only [byts, List.map_cons, List.map_nil, e]
theorem nodeB_length (x : Nd) : (nodeB x).length = 9 := rfl
theorem flat_length9 (Q : List Nd) : (Q.flatMap nodeB).length = 9 * Q.length := by
  induction Q with
  | nil => rfl
  | cons x Q ih => rw [List.flatMap_cons, List.length_append, nodeB_length, ih, List.length_cons]; omega

section
variable {B gl : Nat} {ob : Obj} {w0 w : World} {v : Value} {l : List UInt8}
theorem Byt.alloc (h : Byt B gl ob w0 w v l) (o : Obj) : Byt B gl ob w0 (w.alloc o) v l :=
  ⟨h.row.alloc o, h.own, h.below.alloc h.size o, by have := h.size; simp; omega, (heap_alloc_old w o (block_lt h.lst)).trans h.lst⟩
theorem Byt.drew (h : Byt B gl ob w0 w v l) : Byt B gl ob w0 w.drew v l := ⟨h.row.drew, h.own, h.below.drew, h.size, h.lst⟩
end

theorem run_room (c : Nat) (hc : c ≤ 100000000000) (w : World) : (Instr.makeSlice 29 (.int .i64 0) (.int .i64 (c : Int))).run Try.prog w = .ok (.slice (some ⟨w.heap.size, 0, none⟩) 0 c) (w.alloc (.cells (madeCells #[.int .u8 0] c) 5)) := by
  obtain ⟨i, hi, hz0, hz1, hz2⟩ := info_parts Try.infoByteD
  have := run_make (P := Try.prog) w 29 5 i (.int .u8 0) Try.underlying29 hi hz0 .i64 .i64 0 (c : Int) (by omega) (by omega) (by rw [hz2]; omega) (by omega)
  rw [this, hz1, Nat.mul_one]
  rfl
theorem room_byt {B gl : Nat} {ob : Obj} {w0 w : World} (c : Nat) (hc : c ≤ 100000000000) (hb : Below B w0 w) (hB : B ≤ w.heap.size) (hl : w.heap[gl]? = some ob) : Byt B gl ob w0 (w.alloc (.cells (madeCells #[.int .u8 0] c) 5)) (.slice (some ⟨w.heap.size, 0, none⟩) 0 c) [] := by
  have hgl := block_lt hl
  refine ⟨⟨rfl, Or.inr ⟨w.heap.size, c, _, rfl, Nat.zero_le _, heap_alloc_new w _, Nat.zero_le _, by unfold maxLen; omega, by rw [size_madeCells, Nat.mul_one], by simp [byts]⟩⟩, fun g hg => ?_, hb.alloc hB _, by simp; omega, (heap_alloc_old w _ hgl).trans hl⟩
  have eg : w.heap.size = g := Option.some.inj hg
  subst eg
  exact ⟨hB, by omega⟩

theorem alloc_second (w : World) (a b : Obj) : ((w.alloc a).alloc b).heap[w.heap.size + 1]? = some b := by
  have h := heap_alloc_new (w.alloc a) b
  have e : (w.alloc a).heap.size = w.heap.size + 1 := by simp
  rw [e] at h
  exact h
/-- The two numbers of a node. -/
theorem put_two {B gl : Nat} {ob : Obj} {w0 w : World} {v : Value} {l : List UInt8} (h : Byt B gl ob w0 w v l) (bx : Nat) (x0 x1 x2 : Nat) (hbx : w.heap[bx]? = some (.cells #[.int .i64 x0, .int .i64 x1, .int .i64 x2] 82 (0, 0))) (hne : v.ownBlock ≠ some bx) (h1 : x1 ≤ 1073741826) (h2 : x2 ≤ 1073741826) (hl : l.length ≤ 10000000000) :
    Calls Try.prog 36 #[v, .int .i64 x1] w.drew fun e w5 => ∃ v5, e = .returned v5 ∧ (w5.cell? ⟨bx, 1, none⟩ = some (.int .i64 x1) ∧ w5.cell? ⟨bx, 2, none⟩ = some (.int .i64 x2)) ∧
      Hid (Calls Try.prog 36 #[v5, .int .i64 x2] w5 fun e w6 => ∃ v6, e = .returned v6 ∧ (w6.cell? ⟨bx, 1, none⟩ = some (.int .i64 x1) ∧ w6.cell? ⟨bx, 2, none⟩ = some (.int .i64 x2)) ∧ Hid (Byt B gl ob w0 w6 v6 (l ++ four x1 ++ four x2))) := by
  have lbx := block_lt hbx
  refine (put_ok h.drew x1 h1 (by omega)).mono ?_
  rintro e w5 ⟨g, cap, rfl, h5, hat, hold⟩
  have b5 : w5.heap[bx]? = _ := (hold bx lbx (fun e => hne e.symm)).trans hbx
  have hne5 : some bx ≠ (Value.slice (some ⟨g, 0, none⟩) (l.length + 4) cap).ownBlock := by
    intro e
    have e' : bx = g := Option.some.inj e
    rcases hat with h | h
    · exact hne (by rw [e']; exact h)
    · have h' : g = w.heap.size + 1 := h; omega
  refine ⟨_, rfl, ⟨by rw [cell_at b5]; rfl, by rw [cell_at b5]; rfl⟩, ?_⟩
  refine (put_ok h5 x2 h2 (by rw [List.length_append]; show _ + 4 ≤ _; omega)).mono ?_
  rintro e w6 ⟨g6, cap6, rfl, h6, hat6, hold6⟩
  have b6 : w6.heap[bx]? = _ := (hold6 bx (block_lt b5) hne5).trans b5
  refine ⟨.slice (some ⟨g6, 0, none⟩) ((l ++ four x1).length + 4) cap6, ?_, ⟨by rw [cell_at b6]; rfl, by rw [cell_at b6]; rfl⟩, h6⟩
  rfl

set_option maxRecDepth 4000 in
set_option maxHeartbeats 4000000 in
theorem Write_ok {w : World} {y : Lay} {s : St} (hT : Tab w y s) (h2 : 2 ≤ s.first) (r n : Nat) (hn : s.node? r = some n) (hnl : n < s.L.length + 2) :
    Calls Try.prog 11 #[.pointer (some ⟨y.tb, 0, none⟩), .int .i64 r] w fun e w' => ∃ v, e = .returned (.tuple #[v, .int .i64 0]) ∧ w'.ownsRow 0 5 1 v (dumpB s.bits (listOf s.L n) r).length (byts (dumpB s.bits (listOf s.L n) r)) ∧ (∀ g, v.ownBlock = some g → w.heap.size ≤ g) ∧ Below w.heap.size w w' := by
  have HT := keep hT
  have Q1 := keep (List_new hT h2 r n hn hnl)
  have hfew := list_few hT.okay hnl
  have hsm := hT.small.1
  have hokQ := (list_okay hT.okay hnl).1
  have h128 := hT.okay.few
  have hr1 : (listOf s.L n).length = 0 → r ≤ 1 := by
    intro h0
    rcases Nat.lt_or_ge n 2 with h | h
    · have e : s.node? n = some n := by unfold St.node?; rw [if_pos h]
      rw [node_inj hT hn e]; omega
    · have := (list_last hT.okay h hnl).1; omega
  generalize listOf s.L n = Q at *
  obtain ⟨q, hq⟩ : ∃ q, q = Q.length := ⟨_, rfl⟩
  have HQ := keep hq
  rw [← hq] at Q1 hfew hr1
  have hqI : (q : Int) ≤ 1073741824 := by omega
  have hbI : (s.bits : Int) ≤ 128 := by omega
  have HOK := keep hokQ
  have HR1 := keep hr1
  obtain ⟨i0, hi, hz0, hz1, hz2⟩ := info_parts Try.infoByteD
  have HI := keep hi
  have HZ0 := keep hz0
  have HZ1 := keep hz1
  have HZ2 := keep hz2
  obtain ⟨c, hc⟩ : ∃ c, c = (if q = 0 then 6 else 5 + 9 * q : Nat) := ⟨_, rfl⟩
  have hcb : c ≤ 100000000000 := by rw [hc]; split <;> omega
  have HSZ : Hid (∀ w1, Calls Try.prog 34 #[.int .i64 q] w1 fun e w' => e = .returned (.int .i64 c) ∧ w' = w1) := fun w1 => by rw [hc]; exact dsize_any q (by omega) w1
  have hmk := run_room c hcb
  have HCB := keep hcb
  have HONE := keep (one_val s.bits (by omega))
  clear hT hn hnl hokQ hr1 hi hz0 hz1 hz2 hc hcb hq hfew hsm
  go_enter Try.func11, Try.ntmps11
  go_wp2_with fail
  refine Q1.out.mono ?_
  rintro e w1 ⟨gl, cpl, rfl, hrow, hgl, hb1⟩
  have HROW := keep hrow
  have HB1 := keep hb1
  obtain ⟨cur, hcur⟩ := owned_cells hrow (g := gl) rfl
  have HCUR := keep hcur
  clear Q1 hrow hb1 hcur
  go_wp2_with fail
  refine (HSZ.out w1).mono ?_
  rintro e w2 ⟨rfl, rfl⟩
  have H2 : Hid (Byt w.heap.size gl (.cells cur 82 (0, 0)) w (w2.alloc (.cells (madeCells #[.int .u8 0] c) 5)) (.slice (some ⟨w2.heap.size, 0, none⟩) 0 c) []) := room_byt c HCB.out HB1.out HB1.out.size HCUR.out
  have HBITS := keep (Bits_ok ((HT.out.below HB1.out).below ((Below.refl _ _).alloc (Nat.le_refl _) (.cells (madeCells #[.int .u8 0] c) 5))))
  clear HSZ
  go_wp2_with fail
  refine HBITS.out.mono ?_
  rintro e w3 ⟨rfl, rfl⟩
  clear HBITS hmk
  have hb0 : (0 : Int) ≤ (s.bits : Int) := by omega
  have HO : Hid (∀ o, ((w2.alloc (.cells (madeCells #[.int .u8 0] c) 5)).alloc o).ownsRow 0 5 1 (.slice (some ⟨w2.heap.size, 0, none⟩) 0 c) 0 (byts [])) := fun o => H2.out.row.alloc o
  generalize w2.alloc (.cells (madeCells #[.int .u8 0] c) 5) = W at *
  go_wp2_with (at_builtin; refine wpList_append_lies _ rfl (.tmp 24) (.tmp 28) 29 rfl 0 5 i0 (.int .u8 0) 1 1 Try.underlying29 HI.out HZ0.out HZ1.out HZ2.out rfl (by decide) (.slice (some ⟨w2.heap.size, 0, none⟩) 0 c) 0 (byts []) rfl (HO.out _) ⟨W.heap.size, 0, none⟩ 1 1 [.int .u8 s.bits] rfl rfl (World.news_of_block (heap_alloc_new W _)) (by simp [Value.oneCell']) (by decide) (by unfold maxLen; omega) (by omega) (Nat.zero_le _) (W.heap.size + 1) (by simp) ?_)
  intro g4 cap4 w4 hown4 hgrow4 hat4 hlt4
  have H4 : Hid (Byt w.heap.size gl (.cells cur 82 (0, 0)) w w4 (.slice (some ⟨g4, 0, none⟩) 1 cap4) [UInt8.ofNat s.bits]) := H2.out.grow (m := [UInt8.ofNat s.bits]) rfl (by rw [HONE.out]; exact hown4) hgrow4 hat4
  have HP := keep (put_ok H4.out q (by omega) (by simp))
  clear hown4 hgrow4 hat4 hlt4 HO
  go_wp2_with fail
  refine HP.out.mono ?_
  rintro e w5 ⟨g5, cap5, rfl, h5, _, _⟩
  have H5 : Hid (Byt w.heap.size gl (.cells cur 82 (0, 0)) w w5 (.slice (some ⟨g5, 0, none⟩) 5 cap5) (headB s.bits q)) := h5
  clear h5 HP H4 H2
  by_cases hq0 : q = 0
  · have hr := HR1.out hq0
    have hrI : (r : Int) ≤ 1 := by omega
    have hr0 : (0 : Int) ≤ (r : Int) := by omega
    have HQ0 := keep hq0
    subst hq0
    have HO : Hid (∀ o, (w5.alloc o).ownsRow 0 5 1 (.slice (some ⟨g5, 0, none⟩) 5 cap5) 5 (byts (headB s.bits 0))) := fun o => H5.out.row.alloc o
    have HONR := keep (one_val r (by omega))
    clear hr
    go_wp2_with (at_builtin; refine wpList_append_lies _ rfl (.tmp 37) (.tmp 40) 29 rfl 0 5 i0 (.int .u8 0) 1 1 Try.underlying29 HI.out HZ0.out HZ1.out HZ2.out rfl (by decide) (.slice (some ⟨g5, 0, none⟩) 5 cap5) 5 (byts (headB s.bits 0)) rfl (HO.out _) ⟨w5.heap.size, 0, none⟩ 1 1 [.int .u8 r] rfl rfl (World.news_of_block (heap_alloc_new w5 _)) (by simp [Value.oneCell']) (by decide) (by unfold maxLen; omega) (by omega) (Nat.zero_le _) (w5.heap.size + 1) (by simp) ?_)
    intro g6 cap6 w6 hown6 hgrow6 hat6 hlt6
    have H6 : Hid (Byt w.heap.size gl (.cells cur 82 (0, 0)) w w6 (.slice (some ⟨g6, 0, none⟩) 6 cap6) (headB s.bits 0 ++ [UInt8.ofNat r])) := H5.out.grow (m := [UInt8.ofNat r]) rfl (by rw [HONR.out]; exact hown6) hgrow6 hat6
    clear hown6 hgrow6 hat6 hlt6 HO
    go_wp2
    go_ret2
    have hQ0 : Q = [] := List.length_eq_zero_iff.1 HQ.out.symm
    refine ⟨_, rfl, ?_, fun g hg => (H6.out.own g hg).1, H6.out.below⟩
    have e : dumpB s.bits Q r = headB s.bits 0 ++ [UInt8.ofNat r] := by unfold dumpB; rw [hQ0]; rfl
    rw [e]
    exact H6.out.row
  · have hq0I : ((q : Int) == 0) = false := by rw [beq_eq_false_iff_ne]; omega
    have HQ0 := keep hq0
    clear hq0
    go_wp2
    go_loopw [8, 44] (fun p i wr => ∃ k g cp : Nat, k ≤ q ∧ i = .int .i64 k ∧ p = .slice (some ⟨g, 0, none⟩) (5 + 9 * k) cp ∧ Hid (Byt w.heap.size gl (.cells cur 82 (0, 0)) w wr (.slice (some ⟨g, 0, none⟩) (5 + 9 * k) cp) (headB s.bits q ++ (Q.take k).flatMap nodeB))) (fun _ i _ => q - (intOf i).toNat)
    case atStart => exact ⟨0, g5, cap5, Nat.zero_le _, rfl, rfl, by simpa using H5⟩
    case round =>
      obtain ⟨k, g, cp, hk, rfl, rfl, HB⟩ := hrel
      by_cases hlt : k < q
      · obtain ⟨x, hx⟩ : ∃ x, Q[k]? = some x := ⟨Q[k]'(by rw [← HQ.out]; exact hlt), List.getElem?_eq_getElem (by rw [← HQ.out]; exact hlt)⟩
        have hfit := HOK.out.fit k x hx
        have hQL := HQ.out
        have HT1 : Hid ((Q.take (k + 1)).flatMap nodeB = (Q.take k).flatMap nodeB ++ nodeB x) := by show _ = _; rw [take_succ_get hx, List.flatMap_append, List.flatMap_cons, List.flatMap_nil, List.append_nil]
        have hlr := row_held HROW.out HCUR.out HB.out.lst
        have hadd : ∀ j, (⟨gl, 0, none⟩ : Addr).add j = ⟨gl, j, none⟩ := by intro j; unfold Addr.add; split <;> simp_all
        obtain ⟨f0, f1, f2⟩ := flat_at hx
        have d0 := hlr.cells rfl _ _ f0
        have d1 := hlr.cells rfl _ _ f1
        have d2 := hlr.cells rfl _ _ f2
        rw [hadd] at d0 d1 d2
        have lgl := block_lt HB.out.lst
        have x0 : x.1 ≤ 128 := by omega
        have x1 : x.2.1 ≤ 1073741826 := by omega
        have x2 : x.2.2 ≤ 1073741826 := by omega
        obtain ⟨p0, p1, p2⟩ := x
        simp only [i6] at d0 d1 d2 x0 x1 x2
        have HONX := keep (one_val p0 (by omega))
        have x0I : (p0 : Int) ≤ 128 := by omega
        have x0z : (0 : Int) ≤ (p0 : Int) := by omega
        have hkI : (k : Int) < (q : Int) := by omega
        have hBg := HB.out.own g rfl
        have hgl2 := (HB.out.row.lt g rfl).2
        have hln : (headB s.bits q ++ (Q.take k).flatMap nodeB).length = 5 + 9 * k := by
          rw [List.length_append, flat_length9, List.length_take]
          show 5 + 9 * min k Q.length = _
          omega
        have HLN := keep hln
        have HO : Hid (∀ o o', ((wr.alloc o).alloc o').ownsRow 0 5 1 (.slice (some ⟨g, 0, none⟩) (5 + 9 * k) cp) (5 + 9 * k) (byts (headB s.bits q ++ (Q.take k).flatMap nodeB))) := fun o o' => by
          have h := (HB.out.row.alloc o).alloc o'
          rw [hln] at h
          exact h
        have HBA : Hid (∀ o, Byt w.heap.size gl (.cells cur 82 (0, 0)) w (wr.alloc o) (.slice (some ⟨g, 0, none⟩) (5 + 9 * k) cp) (headB s.bits q ++ (Q.take k).flatMap nodeB)) := fun o => HB.out.alloc o
        clear hfit hlr hadd f0 f1 f2 hx hQL hln
        go_wp2_with (at_builtin; refine wpList_append_lies _ rfl (.tmp 48) (.tmp 52) 29 rfl 0 5 i0 (.int .u8 0) 1 1 Try.underlying29 HI.out HZ0.out HZ1.out HZ2.out rfl (by decide) (.slice (some ⟨g, 0, none⟩) (5 + 9 * k) cp) (5 + 9 * k) (byts (headB s.bits q ++ (Q.take k).flatMap nodeB)) rfl (HO.out _ _) ⟨wr.heap.size + 1, 0, none⟩ 1 1 [.int .u8 p0] rfl rfl (World.news_of_block (alloc_second wr _ _)) (by simp [Value.oneCell']) (by decide) (by unfold maxLen; omega) (by omega) (Nat.zero_le _) (wr.heap.size + 1 + 1) (by simp) ?_)
        intro g6 cap6 w6 hown6 hgrow6 hat6 hlt6
        have h6 : Byt w.heap.size gl (.cells cur 82 (0, 0)) w w6 (.slice (some ⟨g6, 0, none⟩) (5 + 9 * k + 1) cap6) (headB s.bits q ++ (Q.take k).flatMap nodeB ++ [UInt8.ofNat p0]) := (HBA.out _).grow (m := [UInt8.ofNat p0]) (by rw [HLN.out]; rfl) (by rw [HONX.out]; exact hown6) hgrow6 (by simpa using hat6)
        have hbx : w6.heap[wr.heap.size]? = some (.cells #[.int .i64 p0, .int .i64 p1, .int .i64 p2] 82 (0, 0)) := by
          rw [hgrow6.block wr.heap.size (by simp; omega) (fun e => by simp [Value.ownBlock] at e; omega), heap_alloc_old _ _ (by simp)]
          exact heap_alloc_new wr _
        have hne6 : (Value.slice (some ⟨g6, 0, none⟩) (5 + 9 * k + 1) cap6).ownBlock ≠ some wr.heap.size := fun e => by
          simp [Value.ownBlock] at e
          rcases hat6 with h | h
          · simp [Value.ownBlock] at h; omega
          · omega
        have HP2 := keep (put_two h6 wr.heap.size p0 p1 p2 hbx hne6 x1 x2 (by rw [List.length_append, HLN.out]; show _ + 1 ≤ _; omega))
        have b1 : w6.cell? ⟨wr.heap.size, 1, none⟩ = some (.int .i64 p1) := by rw [cell_at hbx]; rfl
        have b2 : w6.cell? ⟨wr.heap.size, 2, none⟩ = some (.int .i64 p2) := by rw [cell_at hbx]; rfl
        clear hown6 hgrow6 hat6 hlt6 HO HBA h6 hbx hne6 d0 d1 d2
        go_wp2_with fail
        go_region_held3 (fun w' => w'.cell? ⟨wr.heap.size, 1, none⟩ = some (.int .i64 p1) ∧ w'.cell? ⟨wr.heap.size, 2, none⟩ = some (.int .i64 p2)) (first | (go_keep; done) | exact k8 | exact k7) (first | (go_at_call 36; refine HP3.out.mono ?_; rintro e w8 ⟨v8, rfl, k8, HB8⟩) | (go_at_call 36; refine HP2.out.mono ?_; rintro e w7 ⟨v7, rfl, k7, HP3⟩))
        have h8 : ∃ g8 c8 : Nat, v8 = .slice (some ⟨g8, 0, none⟩) (5 + 9 * (k + 1)) c8 ∧ Byt w.heap.size gl (.cells cur 82 (0, 0)) w w8 v8 (headB s.bits q ++ (Q.take (k + 1)).flatMap nodeB) := by
          have e : headB s.bits q ++ (Q.take (k + 1)).flatMap nodeB = headB s.bits q ++ (Q.take k).flatMap nodeB ++ [UInt8.ofNat p0] ++ four p1 ++ four p2 := by
            rw [HT1.out]
            unfold nodeB
            simp only [List.append_assoc]
          have hb8 := HB8.out
          rw [← e] at hb8
          have hl : (headB s.bits q ++ (Q.take (k + 1)).flatMap nodeB).length = 5 + 9 * (k + 1) := by
            rw [HT1.out, ← List.append_assoc, List.length_append, HLN.out, nodeB_length]
            omega
          have hr8 := hb8.row
          rw [hl] at hr8
          obtain ⟨g8, c8, hv, _, _⟩ := hr8.form (by omega)
          exact ⟨g8, c8, hv, hb8⟩
        obtain ⟨g8, c8, rfl, hb8⟩ := h8
        have HB9 := keep hb8
        clear hb8 HB8 k7 k8 HP2 HP3
        go_wp2
        go_roundw
        case rel => exact ⟨k + 1, g8, c8, by omega, by go_num, rfl, HB9⟩
        case measure => simp [intOf]; omega
      · have hkn : k = q := by omega
        subst hkn
        have HR : Hid (wr.ownsRow 0 5 1 (.slice (some ⟨g, 0, none⟩) (5 + 9 * k) cp) (dumpB s.bits Q r).length (byts (dumpB s.bits Q r))) := by
          have e : dumpB s.bits Q r = headB s.bits k ++ (Q.take k).flatMap nodeB := by
            unfold dumpB
            rw [← HQ.out, if_neg HQ0.out, HQ.out, List.take_length]
          rw [e]
          exact HB.out.row
        go_wp2
        go_ret2
        exact ⟨_, rfl, HR.out, fun g' hg' => (HB.out.own g' hg').1, HB.out.below⟩
end Go.Proofs.Ytffngpdngjfcfaa
namespace Go.Proofs.Ytffngpdngjfcfaa
open Go.RowKit Go.Maps
open Bd (Nd)

/-- A reader in memory: the bytes that are not read yet, the fault. -/
structure LeftAt (w : World) (rb g : Nat) (l : List UInt8) : Prop where
  ex : ∃ (o cap : Nat), w.heap[rb]? = some (.cells #[.slice (some ⟨g, o, none⟩) l.length cap, .int .i64 0] 125 (0, 0)) ∧ l.length ≤ cap ∧ (cap ≤ 9223372036854775807 ∧ l.length ≤ 100000000000) ∧ g ≠ rb ∧ g < w.heap.size ∧ ∀ (i : Nat) (c : UInt8), l[i]? = some c → w.cell? ⟨g, o + i, none⟩ = some (.int .u8 c.toNat)
/-- Only one block has turned. -/
structure Just (rb : Nat) (w w' : World) : Prop where
  os : w'.os = w.os
  tape : w'.tape = w.tape
  output : w'.output = w.output
  size : w'.heap.size = w.heap.size
  block : ∀ k, k ≠ rb → w'.heap[k]? = w.heap[k]?
theorem Just.refl (rb : Nat) (w : World) : Just rb w w := ⟨rfl, rfl, rfl, rfl, fun _ _ => rfl⟩
theorem Just.trans {rb : Nat} {w w1 w2 : World} (h : Just rb w w1) (h' : Just rb w1 w2) : Just rb w w2 := ⟨h'.os.trans h.os, h'.tape.trans h.tape, h'.output.trans h.output, h'.size.trans h.size, fun k hk => (h'.block k hk).trans (h.block k hk)⟩

def numB (l : List UInt8) : Nat := l.foldl (fun n c => n * 256 + c.toNat) 0
theorem numB_snoc (l : List UInt8) (c : UInt8) : numB (l ++ [c]) = numB l * 256 + c.toNat := by simp [numB]
theorem numB_lt : ∀ (l : List UInt8), numB l < 256 ^ l.length := by
  intro l
  refine Bd.snoc_ind (p := fun l => numB l < 256 ^ l.length) (by simp [numB]) (fun l c h => ?_) l
  rw [numB_snoc, List.length_append, Nat.pow_add]
  have := c.toNat_lt
  simp only [List.length_cons, List.length_nil, Nat.zero_add, Nat.pow_one]
  omega
theorem four_num (n : Nat) (h : n < 4294967296) : numB (four n) = n := by
  have e : ∀ m : Nat, (UInt8.ofNat m).toNat = m % 256 := fun m => by simp [UInt8.toNat_ofNat']
  simp only [four, numB, List.foldl_cons, List.foldl_nil, e]
  omega
theorem one_num (n : Nat) (h : n < 256) : numB [UInt8.ofNat n] = n := by
  have e : ∀ m : Nat, (UInt8.ofNat m).toNat = m % 256 := fun m => by simp [UInt8.toNat_ofNat']
  simp only [numB, List.foldl_cons, List.foldl_nil, e]
  omega

theorem or_next (m d : Nat) (hm : m < 16777216) (hd : d < 256) : bits .or .u32 ((m : Int) * 256) (d : Int) = ((m * 256 + d : Nat) : Int) := by
  have e : (m : Int) * 256 = ((m * 256 : Nat) : Int) := by omega
  rw [e, u32_or_nat _ _ (by omega) (by omega)]
  have h : m * 256 ||| d = m * 256 + d := by
    have := Nat.shiftLeft_add_eq_or_of_lt (i := 8) (b := d) (by simpa using hd) m
    rw [Nat.shiftLeft_eq] at this
    exact this.symm
  rw [h]
/-- The reader behind a number. -/
theorem left_next {w : World} {rb g o cap : Nat} {l : List UInt8} {k o' cap' : Nat} (hc : w.heap[rb]? = some (.cells #[.slice (some ⟨g, o, none⟩) l.length cap, .int .i64 0] 125 (0, 0))) (hcap : l.length ≤ cap) (hcm : cap ≤ 9223372036854775807 ∧ l.length ≤ 100000000000) (hg : g ≠ rb) (hgs : g < w.heap.size) (hcell : ∀ (i : Nat) (c : UInt8), l[i]? = some c → w.cell? ⟨g, o + i, none⟩ = some (.int .u8 c.toNat))
    (hk : k ≤ l.length) (ho : (k < cap ∧ o' = o + k ∧ cap' = cap - k) ∨ (k = cap ∧ o' = o ∧ cap' = 0)) : LeftAt (w.setCell ⟨rb, 0, none⟩ (.slice (some ⟨g, o', none⟩) (l.length - k) cap')) rb g (l.drop k) ∧ Just rb w (w.setCell ⟨rb, 0, none⟩ (.slice (some ⟨g, o', none⟩) (l.length - k) cap')) := by
  refine ⟨⟨o', cap', ?_, ?_, ⟨by omega, by rw [List.length_drop]; omega⟩, hg, by simpa using hgs, fun i c hi => ?_⟩, ⟨rfl, rfl, rfl, by simp, fun j hj => set_other _ hj⟩⟩
  · rw [set_block (o := 0) _ hc, List.length_drop]; rfl
  · rw [List.length_drop]; omega
  · rw [List.getElem?_drop] at hi
    have hil := Bd.getElem?_lt hi
    rw [World.cell?_of_block (set_other _ hg)]
    rcases ho with ⟨h1, rfl, rfl⟩ | ⟨h1, h2, h3⟩
    · rw [Nat.add_assoc]; exact hcell _ _ hi
    · omega

set_option maxHeartbeats 400000 in
theorem dhas_any (ao : Option Addr) (len cap n : Nat) (w : World) (_hl : len ≤ 100000000000) : Calls Try.prog 96 #[.slice ao len cap, .int .i64 n] w fun e w' => e = .returned (.bool (decide (n ≤ len))) ∧ w' = w := by
  go_enter Try.func96, Try.ntmps96
  go_wp2
  go_ret
  exact ⟨by simp, rfl⟩
set_option maxHeartbeats 400000 in
theorem must_yes (p q : Value) (w : World) : Calls Try.prog 76 #[p, .bool true, q] w fun e w' => e = .returned (.tuple #[]) ∧ w' = w := by
  go_enter Try.func76, Try.ntmps76
  go_wp2
  go_end0
  exact ⟨rfl, rfl⟩

set_option maxHeartbeats 2000000 in
theorem number_any {w : World} {rb g : Nat} {l : List UInt8} (hL : LeftAt w rb g l) (k : Nat) (hk : k ≤ l.length) (hk4 : k ≤ 4) (hk1 : 1 ≤ k) :
    Calls Try.prog 97 #[.pointer (some ⟨rb, 0, none⟩), .int .i64 k] w fun e w' => e = .returned (.int .u32 (numB (l.take k))) ∧ LeftAt w' rb g (l.drop k) ∧ Just rb w w' := by
  obtain ⟨o, cap, hc, hcap, hcm, hg, hgs, hcell⟩ := hL.ex
  have c0 : w.cell? ⟨rb, 0, none⟩ = some (.slice (some ⟨g, o, none⟩) l.length cap) := by rw [cell_at hc]; rfl
  have f0 : w.frozen? ⟨rb, 0, none⟩ = false := not_frozen hc
  have HC := keep hc
  have HCELL := keep hcell
  obtain ⟨n, hn⟩ : ∃ n, n = l.length := ⟨_, rfl⟩
  have HN := keep hn
  rw [← hn] at c0 hcap hk
  have hcI : (cap : Int) ≤ 9223372036854775807 := by omega
  have hkI : (k : Int) ≤ (cap : Int) := by omega
  have hk0 : (0 : Int) ≤ (k : Int) := by omega
  clear hL hc hcell hn
  go_enter Try.func97, Try.ntmps97
  go_wp2
  go_loopw [5, 14] (fun u i wr => ∃ j : Nat, j ≤ k ∧ i = .int .i64 j ∧ u = .int .u32 (numB (l.take j)) ∧ wr = w) (fun _ i _ => k - (intOf i).toNat)
  case atStart => exact ⟨0, Nat.zero_le _, rfl, rfl, rfl⟩
  case round =>
    obtain ⟨j, hj, rfl, rfl, rfl⟩ := hrel
    by_cases hlt : j < k
    · obtain ⟨c, hx⟩ : ∃ c, l[j]? = some c := ⟨l[j]'(by rw [← HN.out]; omega), List.getElem?_eq_getElem (by rw [← HN.out]; omega)⟩
      have cc := HCELL.out j c hx
      have HS : Hid (numB (l.take (j + 1)) = numB (l.take j) * 256 + c.toNat) := by
        show _ = _
        rw [List.take_add_one, hx]
        exact numB_snoc _ _
      have hb : numB (l.take j) < 16777216 := by
        have h1 := numB_lt (l.take j)
        have h2 : (l.take j).length ≤ 3 := by have := List.length_take_le j l; omega
        have h3 : 256 ^ (l.take j).length ≤ 256 ^ 3 := Nat.pow_le_pow_right (by omega) h2
        have h4 : (256 : Nat) ^ 3 = 16777216 := by decide
        omega
      have hc8 := c.toNat_lt
      generalize numB (l.take j) = m at *
      generalize c.toNat = d at *
      have hjI : (j : Int) < (k : Int) := by omega
      have hj0 : (0 : Int) ≤ (j : Int) := by omega
      have hmI : (m : Int) < 16777216 := by omega
      have hm0 : (0 : Int) ≤ (m : Int) := by omega
      have hdI : (d : Int) < 256 := by omega
      have hd0 : (0 : Int) ≤ (d : Int) := by omega
      clear hx
      have HOR := keep (or_next m d hb hc8)
      go_wp2
      go_roundw
      case rel => exact ⟨j + 1, by omega, by go_num, by rw [HOR.out, HS.out], by first | trivial | rfl⟩
      case measure => simp [intOf]; omega
    · have hjk : j = k := by omega
      subst hjk
      rcases Nat.lt_or_ge j cap with hjc | hjc
      · have hcI : (j : Int) < (cap : Int) := by omega
        have HR := keep (left_next (k := j) (o' := o + j) (cap' := cap - j) HC.out (by rw [← HN.out]; exact hcap) hcm hg hgs HCELL.out (by rw [← HN.out]; exact hk) (Or.inl ⟨hjc, rfl, rfl⟩))
        rw [← HN.out] at HR
        go_wp2
        all_goals first
          | (exfalso; omega)
          | (go_ret; exact ⟨rfl, HR.out⟩)
      · have hjc' : j = cap := by omega
        subst hjc'
        have HR := keep (left_next (k := j) (o' := o) (cap' := 0) HC.out (by rw [← HN.out]; exact hcap) hcm hg hgs HCELL.out (by rw [← HN.out]; exact hk) (Or.inr ⟨rfl, rfl, rfl⟩))
        rw [← HN.out] at HR
        have e0 : n - j = 0 := by omega
        rw [e0] at HR
        clear e0
        go_wp2
        all_goals first
          | (exfalso; omega)
          | (go_ret; exact ⟨rfl, HR.out⟩)
end Go.Proofs.Ytffngpdngjfcfaa
namespace Go.Proofs.Ytffngpdngjfcfaa
open Go.RowKit Go.Maps
open Bd (Nd)

section
variable {w : World} {rb g : Nat} {l : List UInt8}
theorem LeftAt.same {w' : World} (h : LeftAt w rb g l) (hb : ∀ k, k < w.heap.size → w'.heap[k]? = w.heap[k]?) (hs : w.heap.size ≤ w'.heap.size) : LeftAt w' rb g l := by
  obtain ⟨o, cap, hc, hcap, hcm, hg, hgs, hcell⟩ := h.ex
  exact ⟨o, cap, (hb _ (block_lt hc)).trans hc, hcap, hcm, hg, by omega, fun i c hi => by rw [World.cell?_of_block (hb g hgs)]; exact hcell i c hi⟩
theorem LeftAt.lt (h : LeftAt w rb g l) : rb < w.heap.size := by
  obtain ⟨o, cap, hc, _⟩ := h.ex
  exact block_lt hc
theorem LeftAt.field (h : LeftAt w rb g l) : ∃ (o cap : Nat), w.cell? ⟨rb, 0, none⟩ = some (.slice (some ⟨g, o, none⟩) l.length cap) ∧ l.length ≤ 100000000000 := by
  obtain ⟨o, cap, hc, hcap, hcm, _⟩ := h.ex
  exact ⟨o, cap, by rw [cell_at hc]; rfl, hcm.2⟩
theorem LeftAt.drew (h : LeftAt w rb g l) (n : Nat) : LeftAt (w.drewN n) rb g l := h.same (fun _ _ => rfl) (Nat.le_refl _)
end

theorem dhas_yes (ao : Option Addr) (len cap n : Nat) (w : World) (hl : len ≤ 100000000000) (h : n ≤ len) : Calls Try.prog 96 #[.slice ao len cap, .int .i64 n] w fun e w' => e = .returned (.bool true) ∧ w' = w := by
  have := dhas_any ao len cap n w hl
  rw [decide_eq_true h] at this
  exact this
theorem head_length (bits q : Nat) : (headB bits q).length = 5 := rfl

set_option maxRecDepth 2000 in
set_option maxHeartbeats 2000000 in
theorem head_ok {w : World} {rb g : Nat} {bits q : Nat} {l : List UInt8} (hL : LeftAt w rb g (headB bits q ++ l)) (hb : bits ≤ 128) (hq : q ≤ 1048576) :
    Calls Try.prog 73 #[.pointer (some ⟨rb, 0, none⟩), .int .i64 bits] w fun e w' => e = .returned (.int .i64 q) ∧ LeftAt w' rb g l ∧ Just rb w w' := by
  obtain ⟨o, cap, c0, hlen⟩ := hL.field
  have N1 := keep (number_any hL 1 (by rw [List.length_append, head_length]; omega) (by omega) (by omega))
  have e1 : (headB bits q ++ l).take 1 = [UInt8.ofNat bits] := rfl
  have e1' : (headB bits q ++ l).drop 1 = four q ++ l := rfl
  rw [e1, e1', one_num bits (by omega)] at N1
  obtain ⟨n, hn⟩ : ∃ n, n = (headB bits q ++ l).length := ⟨_, rfl⟩
  have hn5 : 5 ≤ n := by rw [hn, List.length_append, head_length]; omega
  rw [← hn] at c0 hlen
  have h1 : (1 : Int) ≤ (n : Int) := by omega
  have hbI : (bits : Int) ≤ 128 := by omega
  have hb0 : (0 : Int) ≤ (bits : Int) := by omega
  clear hL e1 e1' hn
  go_enter Try.func73, Try.ntmps73
  go_wp2_with fail
  refine (dhas_yes _ n cap 1 w hlen (by omega)).mono ?_
  rintro e w1 ⟨rfl, rfl⟩
  go_wp2_with fail
  refine N1.out.mono ?_
  rintro e w2 ⟨rfl, hL2, hJ2⟩
  have HJ2 := keep hJ2
  obtain ⟨o2, cap2, c2, hlen2⟩ := hL2.field
  have N2 := keep (number_any hL2 4 (by rw [List.length_append]; show 4 ≤ 4 + _; omega) (by omega) (by omega))
  have e2 : (four q ++ l).take 4 = four q := rfl
  have e2' : (four q ++ l).drop 4 = l := rfl
  rw [e2, e2', four_num q (by omega)] at N2
  have hl2 : (four q ++ l).length = 4 + l.length := by rw [List.length_append]; rfl
  rw [hl2] at c2 hlen2
  clear hL2 hJ2 e2 e2' hl2 N1
  have hqI : (q : Int) ≤ 1048576 := by omega
  have hq0 : (0 : Int) ≤ (q : Int) := by omega
  go_wp2_with fail
  refine (must_yes _ _ _).mono ?_
  rintro e w3 ⟨rfl, rfl⟩
  go_wp2_with fail
  refine (dhas_yes _ _ cap2 4 _ hlen2 (by omega)).mono ?_
  rintro e w4 ⟨rfl, rfl⟩
  go_wp2_with fail
  refine (must_yes _ _ _).mono ?_
  rintro e w5 ⟨rfl, rfl⟩
  go_wp2_with fail
  refine N2.out.mono ?_
  rintro e w6 ⟨rfl, hL6, hJ6⟩
  have HR := keep (And.intro hL6 (HJ2.out.trans hJ6))
  clear hL6 hJ6 N2
  go_wp2_with fail
  refine (must_yes _ _ _).mono ?_
  rintro e w7 ⟨rfl, rfl⟩
  go_wp2
  go_ret
  exact ⟨rfl, HR.out⟩

set_option maxRecDepth 2000 in
set_option maxHeartbeats 2000000 in
theorem end_ok {w : World} {rb g r : Nat} (hL : LeftAt w rb g [UInt8.ofNat r]) (hr : r ≤ 1) :
    Calls Try.prog 74 #[.pointer (some ⟨rb, 0, none⟩)] w fun e w' => e = .returned (.int .i64 r) ∧ LeftAt w' rb g [] ∧ Just rb w w' := by
  obtain ⟨o, cap, c0, hlen⟩ := hL.field
  have N1 := keep (number_any hL 1 (by simp) (by omega) (by omega))
  have e1 : ([UInt8.ofNat r] : List UInt8).take 1 = [UInt8.ofNat r] := rfl
  have e1' : ([UInt8.ofNat r] : List UInt8).drop 1 = [] := rfl
  rw [e1, e1', one_num r (by omega)] at N1
  have hl : ([UInt8.ofNat r] : List UInt8).length = 1 := rfl
  rw [hl] at c0 hlen
  have hrI : (r : Int) ≤ 1 := by omega
  have hr0 : (0 : Int) ≤ (r : Int) := by omega
  clear hL e1 e1' hl
  go_enter Try.func74, Try.ntmps74
  go_wp2_with fail
  refine (dhas_yes _ 1 cap 1 w hlen (by omega)).mono ?_
  rintro e w1 ⟨rfl, rfl⟩
  go_wp2_with fail
  refine (must_yes _ _ _).mono ?_
  rintro e w3 ⟨rfl, rfl⟩
  go_wp2_with fail
  refine N1.out.mono ?_
  rintro e w2 ⟨rfl, hL2, hJ2⟩
  obtain ⟨o2, cap2, c2, hlen2⟩ := hL2.field
  have HR := keep (And.intro hL2 hJ2)
  clear hL2 hJ2 N1
  simp only [List.length_nil] at c2
  go_wp2_with fail
  refine (must_yes _ _ _).mono ?_
  rintro e w4 ⟨rfl, rfl⟩
  go_wp2_with fail
  refine (must_yes _ _ _).mono ?_
  rintro e w5 ⟨rfl, rfl⟩
  go_wp2
  go_ret
  exact ⟨rfl, HR.out⟩
end Go.Proofs.Ytffngpdngjfcfaa
namespace Go.Proofs.Ytffngpdngjfcfaa
open Go.RowKit Go.Maps
open Bd (Nd)

def boos (l : List Bool) : List Value := l.map Value.bool
theorem boos_length (l : List Bool) : (boos l).length = l.length := by simp [boos]
theorem boos_append (a b : List Bool) : boos (a ++ b) = boos a ++ boos b := by simp [boos]

/-- Where its parts lie. -/
structure QLay where
  tb : Nat
  ns : Value
  us : Value
  ts : Value
/-- What it holds: the nodes, which of them are used, which are told. -/
structure QSt where
  L : List Nd
  U : List Bool
  T : List Bool
  bits : Nat
  limit : Nat
def QLay.own (y : QLay) (k : Nat) : Prop := k = y.tb ∨ y.ns.ownBlock = some k ∨ y.us.ownBlock = some k ∨ y.ts.ownBlock = some k
def QSt.grow (s : QSt) (N : List Nd) : QSt := { s with L := s.L ++ N, U := s.U ++ List.replicate N.length false, T := s.T ++ List.replicate N.length false }
theorem QSt.grow_nil (s : QSt) : s.grow [] = s := by simp [QSt.grow]
theorem QSt.grow_grow (s : QSt) (N M : List Nd) : (s.grow N).grow M = s.grow (N ++ M) := by
  simp [QSt.grow, List.append_assoc, ← List.replicate_append_replicate]

structure QTab (w : World) (y : QLay) (s : QSt) : Prop where
  cells : w.heap[y.tb]? = some (.cells #[i6 s.bits, i6 s.limit, y.ns, y.us, y.ts] 113 (0, 0))
  list : w.ownsRow 0 82 3 y.ns s.L.length (flat s.L)
  used : w.ownsRow 0 4 1 y.us s.L.length (boos s.U)
  told : w.ownsRow 0 4 1 y.ts s.L.length (boos s.T)
  two : ∀ g, y.us.ownBlock = some g → y.ts.ownBlock ≠ some g
  okay : Bd.Okay s.bits s.L
  small : s.L.length ≤ 1073741824 ∧ s.limit ≤ 1048576 ∧ 1 ≤ s.bits

theorem QLay.own_tb (y : QLay) : y.own y.tb := Or.inl rfl
theorem QLay.own_ns (y : QLay) {k : Nat} (h : y.ns.ownBlock = some k) : y.own k := Or.inr (Or.inl h)
theorem QLay.own_us (y : QLay) {k : Nat} (h : y.us.ownBlock = some k) : y.own k := Or.inr (Or.inr (Or.inl h))
theorem QLay.own_ts (y : QLay) {k : Nat} (h : y.ts.ownBlock = some k) : y.own k := Or.inr (Or.inr (Or.inr h))
section
variable {w w' : World} {y y' : QLay} {s s' : QSt}
theorem QTab.lenU (h : QTab w y s) : s.U.length = s.L.length := by have := h.used.1; rw [boos_length] at this; omega
theorem QTab.lenT (h : QTab w y s) : s.T.length = s.L.length := by have := h.told.1; rw [boos_length] at this; omega
theorem QTab.lt (h : QTab w y s) {k : Nat} (hk : y.own k) : k < w.heap.size := by
  rcases hk with rfl | hk | hk | hk
  · exact block_lt h.cells
  · exact (h.list.lt k hk).2
  · exact (h.used.lt k hk).2
  · exact (h.told.lt k hk).2
/-- Each block of a table is of one of three types. -/
theorem QTab.kind (h : QTab w y s) {k : Nat} (hk : y.own k) : ∃ cur t, w.heap[k]? = some (.cells cur t (0, 0)) ∧ (t = 113 ∨ t = 82 ∨ t = 4) := by
  rcases hk with rfl | hk | hk | hk
  · exact ⟨_, _, h.cells, Or.inl rfl⟩
  · obtain ⟨cur, hc⟩ := owned_cells h.list hk; exact ⟨cur, _, hc, Or.inr (Or.inl rfl)⟩
  · obtain ⟨cur, hc⟩ := owned_cells h.used hk; exact ⟨cur, _, hc, Or.inr (Or.inr rfl)⟩
  · obtain ⟨cur, hc⟩ := owned_cells h.told hk; exact ⟨cur, _, hc, Or.inr (Or.inr rfl)⟩
theorem QTab.apart (h : QTab w y s) : y.ns.ownBlock ≠ some y.tb ∧ y.us.ownBlock ≠ some y.tb ∧ y.ts.ownBlock ≠ some y.tb ∧ (∀ g, y.ns.ownBlock = some g → y.us.ownBlock ≠ some g) ∧ (∀ g, y.ns.ownBlock = some g → y.ts.ownBlock ≠ some g) := by
  refine ⟨fun e => ?_, fun e => ?_, fun e => ?_, fun g e e' => ?_, fun g e e' => ?_⟩
  · obtain ⟨cur, hc⟩ := owned_cells h.list e; rw [h.cells] at hc; simp at hc
  · obtain ⟨cur, hc⟩ := owned_cells h.used e; rw [h.cells] at hc; simp at hc
  · obtain ⟨cur, hc⟩ := owned_cells h.told e; rw [h.cells] at hc; simp at hc
  · obtain ⟨cur, hc⟩ := owned_cells h.list e; obtain ⟨cur', hc'⟩ := owned_cells h.used e'; rw [hc] at hc'; simp at hc'
  · obtain ⟨cur, hc⟩ := owned_cells h.list e; obtain ⟨cur', hc'⟩ := owned_cells h.told e'; rw [hc] at hc'; simp at hc'
theorem QTab.same (h : QTab w y s) (hb : ∀ k, y.own k → w'.heap[k]? = w.heap[k]?) : QTab w' y s :=
  { cells := (hb _ y.own_tb).trans h.cells, list := row_same h.list fun _ hg => hb _ (y.own_ns hg), used := row_same h.used fun _ hg => hb _ (y.own_us hg), told := row_same h.told fun _ hg => hb _ (y.own_ts hg), two := h.two, okay := h.okay, small := h.small }
theorem QTab.below (h : QTab w y s) (hb : Below w.heap.size w w') : QTab w' y s := h.same fun k hk => hb.block k (h.lt hk)
theorem QTab.cell0 (h : QTab w y s) : w.cell? ⟨y.tb, 0, none⟩ = some (.int .i64 s.bits) := by rw [cell_at h.cells]; rfl
theorem QTab.cell1 (h : QTab w y s) : w.cell? ⟨y.tb, 1, none⟩ = some (.int .i64 s.limit) := by rw [cell_at h.cells]; rfl
theorem QTab.cell2 (h : QTab w y s) : w.cell? ⟨y.tb, 2, none⟩ = some y.ns := by rw [cell_at h.cells]; rfl
theorem QTab.cell3 (h : QTab w y s) : w.cell? ⟨y.tb, 3, none⟩ = some y.us := by rw [cell_at h.cells]; rfl
theorem QTab.cell4 (h : QTab w y s) : w.cell? ⟨y.tb, 4, none⟩ = some y.ts := by rw [cell_at h.cells]; rfl
theorem row_slice {base e size n : Nat} {v : Value} {xs : List Value} (h : w.ownsRow base e size v n xs) : ∃ ao cap, v = .slice ao n cap := by
  rcases h.2 with ⟨e, e2⟩ | ⟨g, c, _, e, _⟩
  · exact ⟨none, 0, by rw [e, e2]⟩
  · exact ⟨_, _, e⟩
end

/-- What a call may touch: the blocks of O; those of O' are of O or new. -/
structure Touch (O O' : Nat → Prop) (w w' : World) : Prop where
  own : ∀ k, O' k → O k ∨ w.heap.size ≤ k
  os : w'.os = w.os
  tape : w'.tape = w.tape
  output : w'.output = w.output
  size : w.heap.size ≤ w'.heap.size
  block : ∀ k, k < w.heap.size → ¬ O k → w'.heap[k]? = w.heap[k]?
section
variable {O O1 O2 : Nat → Prop} {w w1 w2 : World}
theorem Touch.refl (O : Nat → Prop) (w : World) : Touch O O w w := ⟨fun _ h => Or.inl h, rfl, rfl, rfl, Nat.le_refl _, fun _ _ _ => rfl⟩
theorem Touch.trans (h : Touch O O1 w w1) (h' : Touch O1 O2 w1 w2) : Touch O O2 w w2 := by
  refine ⟨fun k hk => ?_, h'.os.trans h.os, h'.tape.trans h.tape, h'.output.trans h.output, Nat.le_trans h.size h'.size, fun k hk hn => ?_⟩
  · rcases h'.own k hk with h1 | h1
    · exact h.own k h1
    · exact Or.inr (Nat.le_trans h.size h1)
  · refine (h'.block k (Nat.lt_of_lt_of_le hk h.size) fun ho => ?_).trans (h.block k hk hn)
    rcases h.own k ho with h2 | h2
    · exact hn h2
    · omega
theorem touch_below (O : Nat → Prop) (h : Below w.heap.size w w1) : Touch O O w w1 := ⟨fun _ hk => Or.inl hk, h.os, h.tape, h.output, h.size, fun k hk _ => h.block k hk⟩
theorem Touch.not_own (h : Touch O O1 w w1) {k : Nat} (hk : k < w.heap.size) (hn : ¬ O k) : ¬ O1 k := fun ho => by
  rcases h.own k ho with h1 | h1
  · exact hn h1
  · omega
/-- More may be touched. -/
theorem Touch.more (h : Touch O O1 w w1) (X : Nat → Prop) : Touch (fun k => O k ∨ X k) (fun k => O1 k ∨ X k) w w1 :=
  ⟨fun k hk => by
    rcases hk with hk | hk
    · rcases h.own k hk with h1 | h1
      · exact Or.inl (Or.inl h1)
      · exact Or.inr h1
    · exact Or.inl (Or.inr hk), h.os, h.tape, h.output, h.size, fun k hk hn => h.block k hk fun ho => hn (Or.inl ho)⟩
end

/-- What a call that makes nodes leaves. -/
structure QGrew {bits M : Nat} (A : Bd.Fam bits M) (w : World) (y : QLay) (s : QSt) (w' : World) (r : Nat) (f : Bd.Fn) : Prop where
  ex : ∃ N y', QTab w' y' (s.grow N) ∧ Bd.Within A (s.L ++ N) ∧ r < (s.L ++ N).length + 2 ∧ Bd.den (s.L ++ N) r = f ∧ Touch y.own y'.own w w' ∧ y'.tb = y.tb
theorem QGrew.same {bits M : Nat} {A : Bd.Fam bits M} {w w' : World} {y : QLay} {s : QSt} {r : Nat} {f : Bd.Fn} (hT : QTab w y s) (hW : Bd.Within A s.L) (hr : r < s.L.length + 2) (hf : Bd.den s.L r = f) (hb : Below w.heap.size w w') : QGrew A w y s w' r f := by
  refine ⟨[], y, ?_, ?_, ?_, ?_, touch_below _ hb, rfl⟩
  · rw [QSt.grow_nil]; exact hT.below hb
  · rw [List.append_nil]; exact hW
  · rw [List.append_nil]; exact hr
  · rw [List.append_nil]; exact hf
end Go.Proofs.Ytffngpdngjfcfaa
namespace Go.Proofs.Ytffngpdngjfcfaa
open Go.RowKit Go.Maps
open Bd (Nd)

theorem set_three (A rest : List Value) (z a b c : Value) : (((A ++ z :: z :: z :: rest).set A.length a).set (A.length + 1) b).set (A.length + 2) c = A ++ a :: b :: c :: rest := by
  induction A with
  | nil => rfl
  | cons x A ih =>
    have e1 : (x :: A).length = A.length + 1 := rfl
    have e2 : A.length + 1 + 1 = (A.length + 1) + 1 := rfl
    have e3 : A.length + 1 + 2 = (A.length + 2) + 1 := rfl
    rw [e1, e3, List.cons_append, List.set_cons_succ, List.set_cons_succ, List.set_cons_succ, ih]
    rfl
def zrs (n : Nat) : List Value := flat (List.replicate n (0, 0, 0))
theorem zrs_succ (n : Nat) : zrs (n + 1) = i6 0 :: i6 0 :: i6 0 :: zrs n := by simp [zrs, flat, List.replicate_succ]
theorem made_zrs (n : Nat) : (madeCells #[i6 0, i6 0, i6 0] (n * 3)).toList = zrs n := by
  apply List.ext_getElem?
  intro i
  have hz : (zrs n).length = n * 3 := by rw [zrs, flat_length, List.length_replicate]
  have hm : (madeCells #[i6 0, i6 0, i6 0] (n * 3)).toList.length = n * 3 := by simp [size_madeCells]
  rcases Nat.lt_or_ge i (n * 3) with hi | hi
  · have a1 : (madeCells #[i6 0, i6 0, i6 0] (n * 3)).toList[i]? = some (i6 0) := by
      rw [Array.getElem?_toList]
      unfold madeCells
      rw [Array.getElem?_map, Array.getElem?_range, if_pos hi]
      have h3 : i % 3 = 0 ∨ i % 3 = 1 ∨ i % 3 = 2 := by omega
      rcases h3 with h | h | h <;> simp [h]
    have a2 : (zrs n)[i]? = some (i6 0) := by
      have hk : i / 3 < n := by omega
      have hx : (List.replicate n ((0, 0, 0) : Nd))[i / 3]? = some (0, 0, 0) := by rw [List.getElem?_replicate, if_pos hk]
      obtain ⟨f0, f1, f2⟩ := flat_at hx
      have h3 : i % 3 = 0 ∨ i % 3 = 1 ∨ i % 3 = 2 := by omega
      unfold zrs
      rcases h3 with h | h | h
      · rw [show i = i / 3 * 3 by omega]; exact f0
      · rw [show i = i / 3 * 3 + 1 by omega]; exact f1
      · rw [show i = i / 3 * 3 + 2 by omega]; exact f2
    rw [a1, a2]
  · rw [List.getElem?_eq_none (by omega), List.getElem?_eq_none (by omega)]
theorem drop_nodes {Q : List Nd} {k : Nat} {x : Nd} (h : Q[k]? = some x) : (Q.drop k).flatMap nodeB = nodeB x ++ (Q.drop (k + 1)).flatMap nodeB := by
  have hl := Bd.getElem?_lt h
  rw [List.drop_eq_getElem_cons hl, List.flatMap_cons]
  have e : Q[k] = x := by rw [List.getElem?_eq_getElem hl] at h; cases h; rfl
  rw [e]

/-- A cell of the row is set. -/
theorem left_set {w : World} {rb g G i : Nat} {l : List UInt8} {u : Value} (h : LeftAt w rb g l) (h1 : G ≠ rb) (h2 : G ≠ g) : LeftAt (w.setCell ⟨G, i, none⟩ u) rb g l := by
  obtain ⟨o, cap, hc, hcap, hcm, hg, hgs, hcell⟩ := h.ex
  exact ⟨o, cap, (set_other u (fun e => h1 (Eq.symm e))).trans hc, hcap, hcm, hg, by simpa using hgs, fun j c hj => by rw [World.cell?_of_block (set_other u (fun e => h2 (Eq.symm e)))]; exact hcell j c hj⟩
theorem touch_just {rb : Nat} {w0 w w' : World} (h : Touch (fun k => k = rb) (fun k => k = rb) w0 w) (hj : Just rb w w') : Touch (fun k => k = rb) (fun k => k = rb) w0 w' :=
  h.trans ⟨fun _ hk => Or.inl hk, hj.os, hj.tape, hj.output, by rw [hj.size]; exact Nat.le_refl _, fun k _ hn => hj.block k hn⟩
theorem touch_new {rb G i : Nat} {u : Value} {w0 w : World} (h : Touch (fun k => k = rb) (fun k => k = rb) w0 w) (hG : w0.heap.size ≤ G) : Touch (fun k => k = rb) (fun k => k = rb) w0 (w.setCell ⟨G, i, none⟩ u) :=
  ⟨h.own, h.os, h.tape, h.output, by have := h.size; simpa using this, fun k hk hn => (set_other u (fun e => by have e' : k = G := e; omega)).trans (h.block k hk hn)⟩

/-- The three numbers of a node, read and laid. -/
theorem node_read {w0 w : World} {rb g bits k q : Nat} {Q : List Nd} {x : Nd} (hL : LeftAt w rb g ((Q.drop k).flatMap nodeB)) (hrow : w.ownsRow 0 82 3 (.slice (some ⟨w0.heap.size, 0, none⟩) q q) q (flat (Q.take k) ++ zrs (q - k))) (hT : Touch (fun k => k = rb) (fun k => k = rb) w0 w) (hg : g < w0.heap.size) (hrb : rb < w0.heap.size) (hx : Q[k]? = some x) (hkq : k < q) (hok : Bd.Okay bits Q) (hq : Q.length ≤ 1048576) :
    Calls Try.prog 97 #[.pointer (some ⟨rb, 0, none⟩), .int .i64 1] w fun e w1 => e = .returned (.int .u32 x.1) ∧ (w1.cell? ⟨w0.heap.size, k * 3, none⟩ = some (i6 0) ∧ w1.frozen? ⟨w0.heap.size, k * 3, none⟩ = false) ∧
      Hid (Calls Try.prog 97 #[.pointer (some ⟨rb, 0, none⟩), .int .i64 4] (w1.setCell ⟨w0.heap.size, k * 3, none⟩ (.int .i64 x.1)) fun e w2 => e = .returned (.int .u32 x.2.1) ∧ (w2.cell? ⟨w0.heap.size, k * 3 + 1, none⟩ = some (i6 0) ∧ w2.frozen? ⟨w0.heap.size, k * 3 + 1, none⟩ = false) ∧
        Hid (Calls Try.prog 97 #[.pointer (some ⟨rb, 0, none⟩), .int .i64 4] (w2.setCell ⟨w0.heap.size, k * 3 + 1, none⟩ (.int .i64 x.2.1)) fun e w3 => e = .returned (.int .u32 x.2.2) ∧ (w3.cell? ⟨w0.heap.size, k * 3 + 2, none⟩ = some (i6 0) ∧ w3.frozen? ⟨w0.heap.size, k * 3 + 2, none⟩ = false) ∧
          Hid (LeftAt (w3.setCell ⟨w0.heap.size, k * 3 + 2, none⟩ (.int .i64 x.2.2)) rb g ((Q.drop (k + 1)).flatMap nodeB) ∧ (w3.setCell ⟨w0.heap.size, k * 3 + 2, none⟩ (.int .i64 x.2.2)).ownsRow 0 82 3 (.slice (some ⟨w0.heap.size, 0, none⟩) q q) q (flat (Q.take (k + 1)) ++ zrs (q - (k + 1))) ∧ Touch (fun k => k = rb) (fun k => k = rb) w0 (w3.setCell ⟨w0.heap.size, k * 3 + 2, none⟩ (.int .i64 x.2.2))))) := by
  have hfit := hok.fit k x hx
  have hkl := Bd.getElem?_lt hx
  have hf128 := hok.few
  have hlA : (flat (Q.take k)).length = k * 3 := by rw [flat_length, List.length_take]; omega
  have hz : zrs (q - k) = i6 0 :: i6 0 :: i6 0 :: zrs (q - (k + 1)) := by rw [show q - k = (q - (k + 1)) + 1 by omega, zrs_succ]
  rw [hz] at hrow
  have hset := set_three (flat (Q.take k)) (zrs (q - (k + 1))) (i6 0) (i6 x.1) (i6 x.2.1) (i6 x.2.2)
  rw [hlA] at hset
  have hfl : flat (Q.take (k + 1)) = flat (Q.take k) ++ [i6 x.1, i6 x.2.1, i6 x.2.2] := by rw [take_succ_get hx, flat_snoc]
  have hend : flat (Q.take k) ++ i6 x.1 :: i6 x.2.1 :: i6 x.2.2 :: zrs (q - (k + 1)) = flat (Q.take (k + 1)) ++ zrs (q - (k + 1)) := by rw [hfl, List.append_assoc]; rfl
  have hG1 : w0.heap.size ≠ rb := by omega
  have hG2 : w0.heap.size ≠ g := by omega
  rw [drop_nodes hx] at hL
  have keepRow : ∀ {v v' : World} {xs : List Value}, Just rb v v' → v.ownsRow 0 82 3 (.slice (some ⟨w0.heap.size, 0, none⟩) q q) q xs → v'.ownsRow 0 82 3 (.slice (some ⟨w0.heap.size, 0, none⟩) q q) q xs := fun hj h => row_same h fun g' hg' => hj.block g' (by simp [Value.ownBlock] at hg'; omega)
  have n1 := number_any hL 1 (by rw [List.length_append, nodeB_length]; omega) (by omega) (by omega)
  have t1 : (nodeB x ++ (Q.drop (k + 1)).flatMap nodeB).take 1 = [UInt8.ofNat x.1] := rfl
  have d1 : (nodeB x ++ (Q.drop (k + 1)).flatMap nodeB).drop 1 = four x.2.1 ++ (four x.2.2 ++ (Q.drop (k + 1)).flatMap nodeB) := by unfold nodeB; simp [List.append_assoc]
  rw [t1, d1, one_num x.1 (by omega)] at n1
  refine n1.mono ?_
  rintro e w1 ⟨rfl, hL1, hJ1⟩
  have hr1 := keepRow hJ1 hrow
  refine ⟨rfl, ⟨?_, hr1.frozenAt _⟩, ?_⟩
  · rw [hr1.cellAt (k * 3) (by omega), List.getElem?_append_right (by omega), hlA, Nat.sub_self]; rfl
  have hr1' := (hr1.stored (k * 3) (i6 x.1)).1
  have hL1' := left_set (i := k * 3) (u := i6 x.1) hL1 hG1 hG2
  have hT1 := touch_new (i := k * 3) (u := i6 x.1) (touch_just hT hJ1) (Nat.le_refl _)
  have n2 := number_any hL1' 4 (by rw [List.length_append]; show 4 ≤ 4 + _; omega) (by omega) (by omega)
  have t2 : (four x.2.1 ++ (four x.2.2 ++ (Q.drop (k + 1)).flatMap nodeB)).take 4 = four x.2.1 := rfl
  have d2 : (four x.2.1 ++ (four x.2.2 ++ (Q.drop (k + 1)).flatMap nodeB)).drop 4 = four x.2.2 ++ (Q.drop (k + 1)).flatMap nodeB := rfl
  rw [t2, d2, four_num x.2.1 (by omega)] at n2
  refine n2.mono ?_
  rintro e w2 ⟨rfl, hL2, hJ2⟩
  have hr2 := keepRow hJ2 hr1'
  refine ⟨rfl, ⟨?_, hr2.frozenAt _⟩, ?_⟩
  · rw [hr2.cellAt (k * 3 + 1) (by omega), List.getElem?_set_ne (by omega), List.getElem?_append_right (by omega), hlA, show k * 3 + 1 - k * 3 = 1 by omega]; rfl
  have hr2' := (hr2.stored (k * 3 + 1) (i6 x.2.1)).1
  have hL2' := left_set (i := k * 3 + 1) (u := i6 x.2.1) hL2 hG1 hG2
  have hT2 := touch_new (i := k * 3 + 1) (u := i6 x.2.1) (touch_just hT1 hJ2) (Nat.le_refl _)
  have n3 := number_any hL2' 4 (by rw [List.length_append]; show 4 ≤ 4 + _; omega) (by omega) (by omega)
  have t3 : (four x.2.2 ++ (Q.drop (k + 1)).flatMap nodeB).take 4 = four x.2.2 := rfl
  have d3 : (four x.2.2 ++ (Q.drop (k + 1)).flatMap nodeB).drop 4 = (Q.drop (k + 1)).flatMap nodeB := rfl
  rw [t3, d3, four_num x.2.2 (by omega)] at n3
  refine n3.mono ?_
  rintro e w3 ⟨rfl, hL3, hJ3⟩
  have hr3 := keepRow hJ3 hr2'
  refine ⟨rfl, ⟨?_, hr3.frozenAt _⟩, ?_⟩
  · rw [hr3.cellAt (k * 3 + 2) (by omega), List.getElem?_set_ne (by omega), List.getElem?_set_ne (by omega), List.getElem?_append_right (by omega), hlA, show k * 3 + 2 - k * 3 = 2 by omega]; rfl
  have hr3' := (hr3.stored (k * 3 + 2) (i6 x.2.2)).1
  rw [hset, hend] at hr3'
  exact ⟨left_set hL3 hG1 hG2, hr3', touch_new (touch_just hT2 hJ3) (Nat.le_refl _)⟩

set_option maxRecDepth 2000 in
set_option maxHeartbeats 4000000 in
theorem nodes_ok {w : World} {rb g : Nat} {bits : Nat} {Q : List Nd} (hL : LeftAt w rb g (Q.flatMap nodeB)) (hok : Bd.Okay bits Q) (hq : Q.length ≤ 1048576) :
    Calls Try.prog 75 #[.pointer (some ⟨rb, 0, none⟩), .int .i64 Q.length] w fun e w' => e = .returned (.slice (some ⟨w.heap.size, 0, none⟩) Q.length Q.length) ∧ w'.ownsRow 0 82 3 (.slice (some ⟨w.heap.size, 0, none⟩) Q.length Q.length) Q.length (flat Q) ∧ Touch (fun k => k = rb) (fun k => k = rb) w w' := by
  obtain ⟨o, cap, c0, hlen⟩ := hL.field
  rw [flat_length9] at c0 hlen
  have HL := keep hL
  have HOK := keep hok
  have HG : Hid (g < w.heap.size) := by obtain ⟨_, _, _, _, _, _, h, _⟩ := hL.ex; exact h
  have HRB := keep hL.lt
  obtain ⟨q, hqq⟩ : ∃ q, q = Q.length := ⟨_, rfl⟩
  have HQ := keep hqq
  rw [← hqq] at c0 hlen hq ⊢
  have hqI : (q : Int) ≤ 1048576 := by omega
  clear hL hok hqq
  go_enter Try.func75, Try.ntmps75
  have HH : Hid (∀ n, Calls Try.prog 96 #[.slice (some ⟨g, o, none⟩) (9 * q) cap, .int .i64 (9 * (q : Int))] (w.drewN n) fun e w' => e = .returned (.bool true) ∧ w' = w.drewN n) := fun n => dhas_yes _ (9 * q) cap (9 * q) (w.drewN n) hlen (by omega)
  go_wp2_with fail
  go_quiet (first | (go_at_call 96; exact Calls.quiet_of_same (HH.out _)) | (go_at_call 76; exact Calls.quiet_of_same (must_yes _ _ _)))
  go_wp2_with fail
  refine (must_yes _ _ _).mono ?_
  rintro e w1 ⟨rfl, rfl⟩
  have c0' : (w.drewN nq).cell? ⟨rb, 0, none⟩ = some (.slice (some ⟨g, o, none⟩) (9 * q) cap) := c0
  have hmk := run_blanks q (by omega)
  have HL0 : Hid (LeftAt ((w.drewN nq).alloc (.cells (blanks q) 82)) rb g (Q.flatMap nodeB)) := HL.out.same (fun k hk => heap_alloc_old (w.drewN nq) _ hk) (by simp)
  have HR0 : Hid (((w.drewN nq).alloc (.cells (blanks q) 82)).ownsRow 0 82 3 (.slice (some ⟨w.heap.size, 0, none⟩) q q) q (zrs q)) := by
    refine ⟨by rw [zrs, flat_length, List.length_replicate], Or.inr ⟨w.heap.size, q, blanks q, rfl, Nat.zero_le _, heap_alloc_new (w.drewN nq) _, Nat.le_refl _, by unfold maxLen; omega, blanks_size q, ?_⟩⟩
    rw [← made_zrs q]
    exact List.take_of_length_le (by rw [Array.length_toList]; exact Nat.le_of_eq (size_madeCells _ _))
  have HT0 : Hid (Touch (fun k => k = rb) (fun k => k = rb) w ((w.drewN nq).alloc (.cells (blanks q) 82))) := touch_below _ ((below_drewN (Below.refl _ _) nq).alloc (Nat.le_refl _) _)
  go_wp2_with fail
  clear hmk HH c0 c0' HL
  go_loopw [39] (fun i wr => ∃ k : Nat, k ≤ q ∧ i = .int .i64 k ∧ Hid (LeftAt wr rb g ((Q.drop k).flatMap nodeB) ∧ wr.ownsRow 0 82 3 (.slice (some ⟨w.heap.size, 0, none⟩) q q) q (flat (Q.take k) ++ zrs (q - k)) ∧ Touch (fun k => k = rb) (fun k => k = rb) w wr)) (fun i _ => q - (intOf i).toNat)
  case atStart => exact ⟨0, Nat.zero_le _, rfl, HL0.out, by simpa [flat] using HR0.out, HT0.out⟩
  case round =>
    obtain ⟨k, hk, rfl, HI⟩ := hrel
    by_cases hlt : k < q
    · obtain ⟨x, hx⟩ : ∃ x, Q[k]? = some x := ⟨Q[k]'(by rw [← HQ.out]; exact hlt), List.getElem?_eq_getElem (by rw [← HQ.out]; exact hlt)⟩
      have HX := keep hx
      have HS := keep (node_read HI.out.1 HI.out.2.1 HI.out.2.2 HG.out HRB.out hx (by rw [HQ.out] at hlt ⊢; omega) HOK.out (by rw [← HQ.out]; exact hq))
      have hkI : (k : Int) < (q : Int) := by omega
      have hk0 : (0 : Int) ≤ (k : Int) := by omega
      have hfit := HOK.out.fit k x hx
      have hf := HOK.out.few
      have hQL := HQ.out
      have b0 : (x.1 : Int) ≤ 128 := by omega
      have b1 : (x.2.1 : Int) ≤ 1048577 := by omega
      have b2 : (x.2.2 : Int) ≤ 1048577 := by omega
      have z0 : (0 : Int) ≤ (x.1 : Int) := by omega
      have z1 : (0 : Int) ≤ (x.2.1 : Int) := by omega
      have z2 : (0 : Int) ≤ (x.2.2 : Int) := by omega
      clear hx hfit hf hQL
      go_wp2_with fail
      refine HS.out.mono ?_
      rintro e w1 ⟨rfl, ⟨c1, f1⟩, HS2⟩
      clear HS
      go_wp2_with fail
      refine HS2.out.mono ?_
      rintro e w2 ⟨rfl, ⟨c2, f2⟩, HS3⟩
      clear HS2
      go_wp2_with fail
      refine HS3.out.mono ?_
      rintro e w3 ⟨rfl, ⟨c3, f3⟩, HS4⟩
      clear HS3
      go_wp2
      go_roundw
      case rel => exact ⟨k + 1, by omega, by go_num, HS4⟩
      case measure => simp [intOf]; omega
    · have hkn : k = q := by omega
      subst hkn
      have HR : Hid (wr.ownsRow 0 82 3 (.slice (some ⟨w.heap.size, 0, none⟩) k k) k (flat Q) ∧ Touch (fun k => k = rb) (fun k => k = rb) w wr) := by
        have h := HI.out.2.1
        rw [Nat.sub_self, HQ.out, List.take_length] at h
        rw [HQ.out]
        exact ⟨by simpa [zrs, flat] using h, HI.out.2.2⟩
      go_wp2
      go_ret
      exact ⟨rfl, HR.out⟩
end Go.Proofs.Ytffngpdngjfcfaa
