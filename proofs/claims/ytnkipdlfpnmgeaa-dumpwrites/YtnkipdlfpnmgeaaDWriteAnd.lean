/-
  The document's walk: what lies in memory.
  The document's walk: the order of a list, the places of its nodes.
  The document's bytes of a list that is not empty.
  The document's bytes of a list.
  The document's bytes: a number behind bytes.
  Write: a function's bytes.
-/
import Derived.Test.YtnkipdlfpnmgeaaDPairAnd
import Derived.Test.YtnkipdlfpnmgeaaBCubesAAnd
import Derived.Test.YtnkipdlfpnmgeaaBCanonAnd
import Derived.Test.YtnkipdlfpnmgeaaQReadAnd
namespace Go.Proofs.Ytnkipdlfpnmgeaa
open Go.RowKit Go.Maps
open Bd (Nd)

def nodeB (x : Nd) : List UInt8 := [UInt8.ofNat x.1] ++ four x.2.1 ++ four x.2.2
def headB (bits n : Nat) : List UInt8 := [UInt8.ofNat bits] ++ four n
/-- A function's bytes: r is its ref, where it is an end. -/
def dumpB (bits : Nat) (Q : List Nd) (r : Nat) : List UInt8 := headB bits Q.length ++ (if Q.length = 0 then [UInt8.ofNat r] else Q.flatMap nodeB)
theorem one_val (n : Nat) (hn : n ≤ 255) : byts [UInt8.ofNat n] = [.int .u8 (n : Int)] := by
  have e : ((UInt8.ofNat n).toNat : Int) = (n : Int) := by
    have : (UInt8.ofNat n).toNat = n % 256 := by simp [UInt8.toNat_ofNat']
    rw [this]; omega
  simp only [byts, List.map_cons, List.map_nil, e]
theorem nodeB_length (x : Nd) : (nodeB x).length = 9 := rfl
theorem flat_length9 (Q : List Nd) : (Q.flatMap nodeB).length = 9 * Q.length := by
  induction Q with
  | nil => rfl
  | cons x Q ih => rw [List.flatMap_cons, List.length_append, nodeB_length, ih, List.length_cons]; omega

section
variable {B gl : Nat} {ob : Obj} {w0 w : World} {v : Value} {l : List UInt8}
theorem Byt.alloc (h : Byt B gl ob w0 w v l) (o : Obj) : Byt B gl ob w0 (w.alloc o) v l :=
  ⟨h.row.alloc o, h.own, h.below.alloc h.size o, by have := h.size; simp; omega, (heap_alloc_old w o (block_lt h.lst)).trans h.lst⟩
theorem Byt.drew (h : Byt B gl ob w0 w v l) : Byt B gl ob w0 w.drew v l := ⟨h.row.drew, h.own, h.below.drew, h.size, h.lst⟩
end

theorem run_room (c : Nat) (hc : c ≤ 100000000000) (w : World) : (Instr.makeSlice 29 (.int .i64 0) (.int .i64 (c : Int))).run Try.prog w = .ok (.slice (some ⟨w.heap.size, 0, none⟩) 0 c) (w.alloc (.cells (madeCells #[.int .u8 0] c) 5)) := by
  obtain ⟨i, hi, hz0, hz1, hz2⟩ := info_parts Try.infoByteD
  have := run_make (P := Try.prog) w 29 5 i (.int .u8 0) Try.underlying29 hi hz0 .i64 .i64 0 (c : Int) (by omega) (by omega) (by rw [hz2]; omega) (by omega)
  rw [this, hz1, Nat.mul_one]
  rfl
theorem room_byt {B gl : Nat} {ob : Obj} {w0 w : World} (c : Nat) (hc : c ≤ 100000000000) (hb : Below B w0 w) (hB : B ≤ w.heap.size) (hl : w.heap[gl]? = some ob) : Byt B gl ob w0 (w.alloc (.cells (madeCells #[.int .u8 0] c) 5)) (.slice (some ⟨w.heap.size, 0, none⟩) 0 c) [] := by
  have hgl := block_lt hl
  refine ⟨⟨rfl, Or.inr ⟨w.heap.size, c, _, rfl, Nat.zero_le _, heap_alloc_new w _, Nat.zero_le _, by unfold maxLen; omega, by rw [size_madeCells, Nat.mul_one], by simp [byts]⟩⟩, fun g hg => ?_, hb.alloc hB _, by simp; omega, (heap_alloc_old w _ hgl).trans hl⟩
  have eg : w.heap.size = g := Option.some.inj hg
  subst eg
  exact ⟨hB, by omega⟩

theorem alloc_second (w : World) (a b : Obj) : ((w.alloc a).alloc b).heap[w.heap.size + 1]? = some b := by
  have h := heap_alloc_new (w.alloc a) b
  have e : (w.alloc a).heap.size = w.heap.size + 1 := by simp
  rw [e] at h
  exact h
/-- The two numbers of a node. -/
theorem put_two {B gl : Nat} {ob : Obj} {w0 w : World} {v : Value} {l : List UInt8} (h : Byt B gl ob w0 w v l) (bx : Nat) (x0 x1 x2 : Nat) (hbx : w.heap[bx]? = some (.cells #[.int .i64 x0, .int .i64 x1, .int .i64 x2] 62 (0, 0))) (hne : v.ownBlock ≠ some bx) (h1 : x1 ≤ 1073741826) (h2 : x2 ≤ 1073741826) (hl : l.length ≤ 10000000000) :
    Calls Try.prog 28 #[v, .int .i64 x1] w.drew fun e w5 => ∃ v5, e = .returned v5 ∧ (w5.cell? ⟨bx, 1, none⟩ = some (.int .i64 x1) ∧ w5.cell? ⟨bx, 2, none⟩ = some (.int .i64 x2)) ∧
      Hid (Calls Try.prog 28 #[v5, .int .i64 x2] w5 fun e w6 => ∃ v6, e = .returned v6 ∧ (w6.cell? ⟨bx, 1, none⟩ = some (.int .i64 x1) ∧ w6.cell? ⟨bx, 2, none⟩ = some (.int .i64 x2)) ∧ Hid (Byt B gl ob w0 w6 v6 (l ++ four x1 ++ four x2))) := by
  have lbx := block_lt hbx
  refine (put_ok h.drew x1 h1 (by omega)).mono ?_
  rintro e w5 ⟨g, cap, rfl, h5, hat, hold⟩
  have b5 : w5.heap[bx]? = _ := (hold bx lbx (fun e => hne e.symm)).trans hbx
  have hne5 : some bx ≠ (Value.slice (some ⟨g, 0, none⟩) (l.length + 4) cap).ownBlock := by
    intro e
    have e' : bx = g := Option.some.inj e
    rcases hat with h | h
    · exact hne (by rw [e']; exact h)
    · have h' : g = w.heap.size + 1 := h; omega
  refine ⟨_, rfl, ⟨by rw [cell_at b5]; rfl, by rw [cell_at b5]; rfl⟩, ?_⟩
  refine (put_ok h5 x2 h2 (by rw [List.length_append]; show _ + 4 ≤ _; omega)).mono ?_
  rintro e w6 ⟨g6, cap6, rfl, h6, hat6, hold6⟩
  have b6 : w6.heap[bx]? = _ := (hold6 bx (block_lt b5) hne5).trans b5
  refine ⟨.slice (some ⟨g6, 0, none⟩) ((l ++ four x1).length + 4) cap6, ?_, ⟨by rw [cell_at b6]; rfl, by rw [cell_at b6]; rfl⟩, h6⟩
  rfl

set_option maxRecDepth 4000 in
set_option maxHeartbeats 4000000 in
theorem Write_ok {w : World} {y : Lay} {s : St} (hT : Tab w y s) (h2 : 2 ≤ s.first) (r n : Nat) (hn : s.node? r = some n) (hnl : n < s.L.length + 2) :
    Calls Try.prog 8 #[.pointer (some ⟨y.tb, 0, none⟩), .int .i64 r] w fun e w' => ∃ v, e = .returned (.tuple #[v, .int .i64 0]) ∧ w'.ownsRow 0 5 1 v (dumpB s.bits (listOf s.L n) r).length (byts (dumpB s.bits (listOf s.L n) r)) ∧ (∀ g, v.ownBlock = some g → w.heap.size ≤ g) ∧ Below w.heap.size w w' := by
  have HT := keep hT
  have Q1 := keep (List_new hT h2 r n hn hnl)
  have hfew := list_few hT.okay hnl
  have hsm := hT.small.1
  have hokQ := (list_okay hT.okay hnl).1
  have h128 := hT.okay.few
  have hr1 : (listOf s.L n).length = 0 → r ≤ 1 := by
    intro h0
    rcases Nat.lt_or_ge n 2 with h | h
    · have e : s.node? n = some n := by unfold St.node?; rw [if_pos h]
      rw [node_inj hT hn e]; omega
    · have := (list_last hT.okay h hnl).1; omega
  generalize listOf s.L n = Q at *
  obtain ⟨q, hq⟩ : ∃ q, q = Q.length := ⟨_, rfl⟩
  have HQ := keep hq
  rw [← hq] at Q1 hfew hr1
  have hqI : (q : Int) ≤ 1073741824 := by omega
  have hbI : (s.bits : Int) ≤ 128 := by omega
  have HOK := keep hokQ
  have HR1 := keep hr1
  obtain ⟨i0, hi, hz0, hz1, hz2⟩ := info_parts Try.infoByteD
  have HI := keep hi
  have HZ0 := keep hz0
  have HZ1 := keep hz1
  have HZ2 := keep hz2
  obtain ⟨c, hc⟩ : ∃ c, c = (if q = 0 then 6 else 5 + 9 * q : Nat) := ⟨_, rfl⟩
  have hcb : c ≤ 100000000000 := by rw [hc]; split <;> omega
  have HSZ : Hid (∀ w1, Calls Try.prog 26 #[.int .i64 q] w1 fun e w' => e = .returned (.int .i64 c) ∧ w' = w1) := fun w1 => by rw [hc]; exact dsize_any q (by omega) w1
  have hmk := run_room c hcb
  have HCB := keep hcb
  have HONE := keep (one_val s.bits (by omega))
  clear hT hn hnl hokQ hr1 hi hz0 hz1 hz2 hc hcb hq hfew hsm
  go_enter Try.func8, Try.ntmps8
  go_wp2_with fail
  refine Q1.out.mono ?_
  rintro e w1 ⟨gl, cpl, rfl, hrow, hgl, hb1⟩
  have HROW := keep hrow
  have HB1 := keep hb1
  obtain ⟨cur, hcur⟩ := owned_cells hrow (g := gl) rfl
  have HCUR := keep hcur
  clear Q1 hrow hb1 hcur
  go_wp2_with fail
  refine (HSZ.out w1).mono ?_
  rintro e w2 ⟨rfl, rfl⟩
  have H2 : Hid (Byt w.heap.size gl (.cells cur 62 (0, 0)) w (w2.alloc (.cells (madeCells #[.int .u8 0] c) 5)) (.slice (some ⟨w2.heap.size, 0, none⟩) 0 c) []) := room_byt c HCB.out HB1.out HB1.out.size HCUR.out
  have HBITS := keep (Bits_ok ((HT.out.below HB1.out).below ((Below.refl _ _).alloc (Nat.le_refl _) (.cells (madeCells #[.int .u8 0] c) 5))))
  clear HSZ
  go_wp2_with fail
  refine HBITS.out.mono ?_
  rintro e w3 ⟨rfl, rfl⟩
  clear HBITS hmk
  have hb0 : (0 : Int) ≤ (s.bits : Int) := by omega
  have HO : Hid (∀ o, ((w2.alloc (.cells (madeCells #[.int .u8 0] c) 5)).alloc o).ownsRow 0 5 1 (.slice (some ⟨w2.heap.size, 0, none⟩) 0 c) 0 (byts [])) := fun o => H2.out.row.alloc o
  generalize w2.alloc (.cells (madeCells #[.int .u8 0] c) 5) = W at *
  go_wp2_with (at_builtin; refine wpList_append_lies _ rfl (.tmp 24) (.tmp 28) 29 rfl 0 5 i0 (.int .u8 0) 1 1 Try.underlying29 HI.out HZ0.out HZ1.out HZ2.out rfl (by decide) (.slice (some ⟨w2.heap.size, 0, none⟩) 0 c) 0 (byts []) rfl (HO.out _) ⟨W.heap.size, 0, none⟩ 1 1 [.int .u8 s.bits] rfl rfl (World.news_of_block (heap_alloc_new W _)) (by simp [Value.oneCell']) (by decide) (by unfold maxLen; omega) (by omega) (Nat.zero_le _) (W.heap.size + 1) (by simp) ?_)
  intro g4 cap4 w4 hown4 hgrow4 hat4 hlt4
  have H4 : Hid (Byt w.heap.size gl (.cells cur 62 (0, 0)) w w4 (.slice (some ⟨g4, 0, none⟩) 1 cap4) [UInt8.ofNat s.bits]) := H2.out.grow (m := [UInt8.ofNat s.bits]) rfl (by rw [HONE.out]; exact hown4) hgrow4 hat4
  have HP := keep (put_ok H4.out q (by omega) (by simp))
  clear hown4 hgrow4 hat4 hlt4 HO
  go_wp2_with fail
  refine HP.out.mono ?_
  rintro e w5 ⟨g5, cap5, rfl, h5, _, _⟩
  have H5 : Hid (Byt w.heap.size gl (.cells cur 62 (0, 0)) w w5 (.slice (some ⟨g5, 0, none⟩) 5 cap5) (headB s.bits q)) := h5
  clear h5 HP H4 H2
  by_cases hq0 : q = 0
  · have hr := HR1.out hq0
    have hrI : (r : Int) ≤ 1 := by omega
    have hr0 : (0 : Int) ≤ (r : Int) := by omega
    have HQ0 := keep hq0
    subst hq0
    have HO : Hid (∀ o, (w5.alloc o).ownsRow 0 5 1 (.slice (some ⟨g5, 0, none⟩) 5 cap5) 5 (byts (headB s.bits 0))) := fun o => H5.out.row.alloc o
    have HONR := keep (one_val r (by omega))
    clear hr
    go_wp2_with (at_builtin; refine wpList_append_lies _ rfl (.tmp 37) (.tmp 40) 29 rfl 0 5 i0 (.int .u8 0) 1 1 Try.underlying29 HI.out HZ0.out HZ1.out HZ2.out rfl (by decide) (.slice (some ⟨g5, 0, none⟩) 5 cap5) 5 (byts (headB s.bits 0)) rfl (HO.out _) ⟨w5.heap.size, 0, none⟩ 1 1 [.int .u8 r] rfl rfl (World.news_of_block (heap_alloc_new w5 _)) (by simp [Value.oneCell']) (by decide) (by unfold maxLen; omega) (by omega) (Nat.zero_le _) (w5.heap.size + 1) (by simp) ?_)
    intro g6 cap6 w6 hown6 hgrow6 hat6 hlt6
    have H6 : Hid (Byt w.heap.size gl (.cells cur 62 (0, 0)) w w6 (.slice (some ⟨g6, 0, none⟩) 6 cap6) (headB s.bits 0 ++ [UInt8.ofNat r])) := H5.out.grow (m := [UInt8.ofNat r]) rfl (by rw [HONR.out]; exact hown6) hgrow6 hat6
    clear hown6 hgrow6 hat6 hlt6 HO
    go_wp2
    go_ret2
    have hQ0 : Q = [] := List.length_eq_zero_iff.1 HQ.out.symm
    refine ⟨_, rfl, ?_, fun g hg => (H6.out.own g hg).1, H6.out.below⟩
    have e : dumpB s.bits Q r = headB s.bits 0 ++ [UInt8.ofNat r] := by unfold dumpB; rw [hQ0]; rfl
    rw [e]
    exact H6.out.row
  · have hq0I : ((q : Int) == 0) = false := by rw [beq_eq_false_iff_ne]; omega
    have HQ0 := keep hq0
    clear hq0
    go_wp2
    go_loopw [8, 44] (fun p i wr => ∃ k g cp : Nat, k ≤ q ∧ i = .int .i64 k ∧ p = .slice (some ⟨g, 0, none⟩) (5 + 9 * k) cp ∧ Hid (Byt w.heap.size gl (.cells cur 62 (0, 0)) w wr (.slice (some ⟨g, 0, none⟩) (5 + 9 * k) cp) (headB s.bits q ++ (Q.take k).flatMap nodeB))) (fun _ i _ => q - (intOf i).toNat)
    case atStart => exact ⟨0, g5, cap5, Nat.zero_le _, rfl, rfl, by simpa using H5⟩
    case round =>
      obtain ⟨k, g, cp, hk, rfl, rfl, HB⟩ := hrel
      by_cases hlt : k < q
      · obtain ⟨x, hx⟩ : ∃ x, Q[k]? = some x := ⟨Q[k]'(by rw [← HQ.out]; exact hlt), List.getElem?_eq_getElem (by rw [← HQ.out]; exact hlt)⟩
        have hfit := HOK.out.fit k x hx
        have hQL := HQ.out
        have HT1 : Hid ((Q.take (k + 1)).flatMap nodeB = (Q.take k).flatMap nodeB ++ nodeB x) := by show _ = _; rw [take_succ_get hx, List.flatMap_append, List.flatMap_cons, List.flatMap_nil, List.append_nil]
        have hlr := row_held HROW.out HCUR.out HB.out.lst
        have hadd : ∀ j, (⟨gl, 0, none⟩ : Addr).add j = ⟨gl, j, none⟩ := by intro j; unfold Addr.add; split <;> simp_all
        obtain ⟨f0, f1, f2⟩ := flat_at hx
        have d0 := hlr.cells rfl _ _ f0
        have d1 := hlr.cells rfl _ _ f1
        have d2 := hlr.cells rfl _ _ f2
        rw [hadd] at d0 d1 d2
        have lgl := block_lt HB.out.lst
        have x0 : x.1 ≤ 128 := by omega
        have x1 : x.2.1 ≤ 1073741826 := by omega
        have x2 : x.2.2 ≤ 1073741826 := by omega
        obtain ⟨p0, p1, p2⟩ := x
        simp only [i6] at d0 d1 d2 x0 x1 x2
        have HONX := keep (one_val p0 (by omega))
        have x0I : (p0 : Int) ≤ 128 := by omega
        have x0z : (0 : Int) ≤ (p0 : Int) := by omega
        have hkI : (k : Int) < (q : Int) := by omega
        have hBg := HB.out.own g rfl
        have hgl2 := (HB.out.row.lt g rfl).2
        have hln : (headB s.bits q ++ (Q.take k).flatMap nodeB).length = 5 + 9 * k := by
          rw [List.length_append, flat_length9, List.length_take]
          show 5 + 9 * min k Q.length = _
          omega
        have HLN := keep hln
        have HO : Hid (∀ o o', ((wr.alloc o).alloc o').ownsRow 0 5 1 (.slice (some ⟨g, 0, none⟩) (5 + 9 * k) cp) (5 + 9 * k) (byts (headB s.bits q ++ (Q.take k).flatMap nodeB))) := fun o o' => by
          have h := (HB.out.row.alloc o).alloc o'
          rw [hln] at h
          exact h
        have HBA : Hid (∀ o, Byt w.heap.size gl (.cells cur 62 (0, 0)) w (wr.alloc o) (.slice (some ⟨g, 0, none⟩) (5 + 9 * k) cp) (headB s.bits q ++ (Q.take k).flatMap nodeB)) := fun o => HB.out.alloc o
        clear hfit hlr hadd f0 f1 f2 hx hQL hln
        go_wp2_with (at_builtin; refine wpList_append_lies _ rfl (.tmp 48) (.tmp 52) 29 rfl 0 5 i0 (.int .u8 0) 1 1 Try.underlying29 HI.out HZ0.out HZ1.out HZ2.out rfl (by decide) (.slice (some ⟨g, 0, none⟩) (5 + 9 * k) cp) (5 + 9 * k) (byts (headB s.bits q ++ (Q.take k).flatMap nodeB)) rfl (HO.out _ _) ⟨wr.heap.size + 1, 0, none⟩ 1 1 [.int .u8 p0] rfl rfl (World.news_of_block (alloc_second wr _ _)) (by simp [Value.oneCell']) (by decide) (by unfold maxLen; omega) (by omega) (Nat.zero_le _) (wr.heap.size + 1 + 1) (by simp) ?_)
        intro g6 cap6 w6 hown6 hgrow6 hat6 hlt6
        have h6 : Byt w.heap.size gl (.cells cur 62 (0, 0)) w w6 (.slice (some ⟨g6, 0, none⟩) (5 + 9 * k + 1) cap6) (headB s.bits q ++ (Q.take k).flatMap nodeB ++ [UInt8.ofNat p0]) := (HBA.out _).grow (m := [UInt8.ofNat p0]) (by rw [HLN.out]; rfl) (by rw [HONX.out]; exact hown6) hgrow6 (by simpa using hat6)
        have hbx : w6.heap[wr.heap.size]? = some (.cells #[.int .i64 p0, .int .i64 p1, .int .i64 p2] 62 (0, 0)) := by
          rw [hgrow6.block wr.heap.size (by simp; omega) (fun e => by simp [Value.ownBlock] at e; omega), heap_alloc_old _ _ (by simp)]
          exact heap_alloc_new wr _
        have hne6 : (Value.slice (some ⟨g6, 0, none⟩) (5 + 9 * k + 1) cap6).ownBlock ≠ some wr.heap.size := fun e => by
          simp [Value.ownBlock] at e
          rcases hat6 with h | h
          · simp [Value.ownBlock] at h; omega
          · omega
        have HP2 := keep (put_two h6 wr.heap.size p0 p1 p2 hbx hne6 x1 x2 (by rw [List.length_append, HLN.out]; show _ + 1 ≤ _; omega))
        have b1 : w6.cell? ⟨wr.heap.size, 1, none⟩ = some (.int .i64 p1) := by rw [cell_at hbx]; rfl
        have b2 : w6.cell? ⟨wr.heap.size, 2, none⟩ = some (.int .i64 p2) := by rw [cell_at hbx]; rfl
        clear hown6 hgrow6 hat6 hlt6 HO HBA h6 hbx hne6 d0 d1 d2
        go_wp2_with fail
        go_region_held3 (fun w' => w'.cell? ⟨wr.heap.size, 1, none⟩ = some (.int .i64 p1) ∧ w'.cell? ⟨wr.heap.size, 2, none⟩ = some (.int .i64 p2)) (first | (go_keep; done) | exact k8 | exact k7) (first | (go_at_call 28; refine HP3.out.mono ?_; rintro e w8 ⟨v8, rfl, k8, HB8⟩) | (go_at_call 28; refine HP2.out.mono ?_; rintro e w7 ⟨v7, rfl, k7, HP3⟩))
        have h8 : ∃ g8 c8 : Nat, v8 = .slice (some ⟨g8, 0, none⟩) (5 + 9 * (k + 1)) c8 ∧ Byt w.heap.size gl (.cells cur 62 (0, 0)) w w8 v8 (headB s.bits q ++ (Q.take (k + 1)).flatMap nodeB) := by
          have e : headB s.bits q ++ (Q.take (k + 1)).flatMap nodeB = headB s.bits q ++ (Q.take k).flatMap nodeB ++ [UInt8.ofNat p0] ++ four p1 ++ four p2 := by
            rw [HT1.out]
            unfold nodeB
            simp only [List.append_assoc]
          have hb8 := HB8.out
          rw [← e] at hb8
          have hl : (headB s.bits q ++ (Q.take (k + 1)).flatMap nodeB).length = 5 + 9 * (k + 1) := by
            rw [HT1.out, ← List.append_assoc, List.length_append, HLN.out, nodeB_length]
            omega
          have hr8 := hb8.row
          rw [hl] at hr8
          obtain ⟨g8, c8, hv, _, _⟩ := hr8.form (by omega)
          exact ⟨g8, c8, hv, hb8⟩
        obtain ⟨g8, c8, rfl, hb8⟩ := h8
        have HB9 := keep hb8
        clear hb8 HB8 k7 k8 HP2 HP3
        go_wp2
        go_roundw
        case rel => exact ⟨k + 1, g8, c8, by omega, by go_num, rfl, HB9⟩
        case measure => simp [intOf]; omega
      · have hkn : k = q := by omega
        subst hkn
        have HR : Hid (wr.ownsRow 0 5 1 (.slice (some ⟨g, 0, none⟩) (5 + 9 * k) cp) (dumpB s.bits Q r).length (byts (dumpB s.bits Q r))) := by
          have e : dumpB s.bits Q r = headB s.bits k ++ (Q.take k).flatMap nodeB := by
            unfold dumpB
            rw [← HQ.out, if_neg HQ0.out, HQ.out, List.take_length]
          rw [e]
          exact HB.out.row
        go_wp2
        go_ret2
        exact ⟨_, rfl, HR.out, fun g' hg' => (HB.out.own g' hg').1, HB.out.below⟩
end Go.Proofs.Ytnkipdlfpnmgeaa
namespace Go.Proofs.Ytnkipdlfpnmgeaa
open Go.RowKit Go.Maps
open Bd (Nd)

set_option maxHeartbeats 1000000 in
theorem four_ok {B gl : Nat} {ob : Obj} {w0 w : World} {v : Value} {l : List UInt8} (h : Byt B gl ob w0 w v l) (n : Nat) (hn : n ≤ 1073741826) (hl : l.length ≤ 100000000000) :
    Calls Try.prog 56 #[v, .int .i64 n] w fun e w' => ∃ g cap, e = .returned (.slice (some ⟨g, 0, none⟩) (l.length + 4) cap) ∧ Byt B gl ob w0 w' (.slice (some ⟨g, 0, none⟩) (l.length + 4) cap) (l ++ four n) ∧ (v.ownBlock = some g ∨ g = w.heap.size + 1) ∧ (∀ j, j < w.heap.size → some j ≠ v.ownBlock → w'.heap[j]? = w.heap[j]?) := by
  obtain ⟨i0, hi, hz0, hz1, hz2⟩ := info_parts Try.infoByteD
  have HI := keep hi
  have HZ0 := keep hz0
  have HZ1 := keep hz1
  have HZ2 := keep hz2
  have H := keep h
  have HROW : Hid (∀ o, (w.alloc o).ownsRow 0 5 1 v l.length (byts l)) := fun o => h.row.alloc o
  have HFV := keep (four_vals n hn)
  have hnI : (n : Int) ≤ 1073741826 := by omega
  have hn0 : (0 : Int) ≤ (n : Int) := by omega
  obtain ⟨k, hk⟩ : ∃ k, k = l.length := ⟨_, rfl⟩
  have HK := keep hk
  rw [← hk] at HROW hl ⊢
  clear h hi hz0 hz1 hz2 hn hk
  go_enter Try.func56, Try.ntmps56
  go_wp2_with (first | (at_builtin; refine wpList_append_lies _ rfl (.tmp 5) (.tmp 17) 29 rfl 0 5 i0 (.int .u8 0) 1 1 Try.underlying29 HI.out HZ0.out HZ1.out HZ2.out rfl (by decide) v k (byts l) rfl (HROW.out _) ⟨w.heap.size, 0, none⟩ 4 4 [.int .u8 ((n : Int) / 16777216), .int .u8 ((n : Int) / 65536 % 256), .int .u8 ((n : Int) / 256 % 256), .int .u8 ((n : Int) % 256)] rfl rfl (World.news_of_block (heap_alloc_new w _)) (by simp [Value.oneCell']) (by decide) (by unfold maxLen; omega) (by omega) (Nat.zero_le _) (w.heap.size + 1) (by simp) ?_; intro g4 cap4 w4 hown4 hgrow4 hat4 hlt4))
  go_ret
  rw [← HFV.out] at hown4
  exact ⟨g4, cap4, rfl, H.out.grow (by rw [HK.out]; rfl) hown4 hgrow4 hat4, hat4, fun j hj hne => (hgrow4.block j (by simp; omega) hne).trans (heap_alloc_old w _ hj)⟩
/-- The two numbers of a node. -/
theorem four_two {B gl : Nat} {ob : Obj} {w0 w : World} {v : Value} {l : List UInt8} (h : Byt B gl ob w0 w v l) (bx : Nat) (x0 x1 x2 : Nat) (hbx : w.heap[bx]? = some (.cells #[.int .i64 x0, .int .i64 x1, .int .i64 x2] 62 (0, 0))) (hne : v.ownBlock ≠ some bx) (h1 : x1 ≤ 1073741826) (h2 : x2 ≤ 1073741826) (hl : l.length ≤ 10000000000) :
    Calls Try.prog 56 #[v, .int .i64 x1] w.drew fun e w5 => ∃ v5, e = .returned v5 ∧ (w5.cell? ⟨bx, 1, none⟩ = some (.int .i64 x1) ∧ w5.cell? ⟨bx, 2, none⟩ = some (.int .i64 x2)) ∧
      Hid (Calls Try.prog 56 #[v5, .int .i64 x2] w5 fun e w6 => ∃ v6, e = .returned v6 ∧ (w6.cell? ⟨bx, 1, none⟩ = some (.int .i64 x1) ∧ w6.cell? ⟨bx, 2, none⟩ = some (.int .i64 x2)) ∧ Hid (Byt B gl ob w0 w6 v6 (l ++ four x1 ++ four x2))) := by
  have lbx := block_lt hbx
  refine (four_ok h.drew x1 h1 (by omega)).mono ?_
  rintro e w5 ⟨g, cap, rfl, h5, hat, hold⟩
  have b5 : w5.heap[bx]? = _ := (hold bx lbx (fun e => hne e.symm)).trans hbx
  have hne5 : some bx ≠ (Value.slice (some ⟨g, 0, none⟩) (l.length + 4) cap).ownBlock := by
    intro e
    have e' : bx = g := Option.some.inj e
    rcases hat with h | h
    · exact hne (by rw [e']; exact h)
    · have h' : g = w.heap.size + 1 := h; omega
  refine ⟨_, rfl, ⟨by rw [cell_at b5]; rfl, by rw [cell_at b5]; rfl⟩, ?_⟩
  refine (four_ok h5 x2 h2 (by rw [List.length_append]; show _ + 4 ≤ _; omega)).mono ?_
  rintro e w6 ⟨g6, cap6, rfl, h6, hat6, hold6⟩
  have b6 : w6.heap[bx]? = _ := (hold6 bx (block_lt b5) hne5).trans b5
  refine ⟨.slice (some ⟨g6, 0, none⟩) ((l ++ four x1).length + 4) cap6, ?_, ⟨by rw [cell_at b6]; rfl, by rw [cell_at b6]; rfl⟩, h6⟩
  rfl

end Go.Proofs.Ytnkipdlfpnmgeaa
namespace Go.Proofs.Ytnkipdlfpnmgeaa
open Go.RowKit Go.Maps
open Bd (Nd)

theorem byt_one {B gl : Nat} {ob : Obj} {w0 w : World} (n : Nat) (hn : n ≤ 255) (hb : Below B w0 w) (hB : B ≤ w.heap.size) (hl : w.heap[gl]? = some ob) : Byt B gl ob w0 (w.alloc (.cells #[.int .u8 n] 5)) (.slice (some ⟨w.heap.size, 0, none⟩) 1 1) [UInt8.ofNat n] := by
  have hgl := block_lt hl
  refine ⟨⟨rfl, Or.inr ⟨w.heap.size, 1, _, rfl, Nat.zero_le _, heap_alloc_new w _, Nat.le_refl _, by unfold maxLen; omega, rfl, by rw [one_val n hn]; rfl⟩⟩, fun g hg => ?_, hb.alloc hB _, by simp; omega, (heap_alloc_old w _ hgl).trans hl⟩
  have eg : w.heap.size = g := Option.some.inj hg
  subst eg
  exact ⟨hB, by omega⟩

set_option maxRecDepth 4000 in
set_option maxHeartbeats 4000000 in
theorem bytes_none (bits : Nat) (hbits : bits ≤ 128) (yes : Bool) (v : Value) (hv : ∃ ao c, v = .slice ao 0 c) {w : World} {gl : Nat} {ob : Obj} (hgl : w.heap[gl]? = some ob) :
    Calls Try.prog 29 #[.int .i64 bits, v, .bool yes] w fun e w' => ∃ u, e = .returned u ∧ w'.ownsRow 0 5 1 u (dumpB bits [] (if yes = true then 1 else 0)).length (byts (dumpB bits [] (if yes = true then 1 else 0))) ∧ (∀ g, u.ownBlock = some g → w.heap.size ≤ g) ∧ Below w.heap.size w w' := by
  obtain ⟨ao, c, rfl⟩ := hv
  have hbI : (bits : Int) ≤ 128 := by omega
  have hb0 : (0 : Int) ≤ (bits : Int) := by omega
  have H1 := keep (byt_one (w := w) bits (by omega) (Below.refl w.heap.size w) (Nat.le_refl _) hgl)
  have HP := keep (four_ok H1.out 0 (by omega) (by simp))
  obtain ⟨i0, hi, hz0, hz1, hz2⟩ := info_parts Try.infoByteD
  have HI := keep hi
  have HZ0 := keep hz0
  have HZ1 := keep hz1
  have HZ2 := keep hz2
  clear hi hz0 hz1 hz2 hgl
  go_enter Try.func29, Try.ntmps29
  go_wp2_with fail
  refine HP.out.mono ?_
  rintro e w5 ⟨g5, cap5, rfl, h5, _, _⟩
  have H5 : Hid (Byt w.heap.size gl ob w w5 (.slice (some ⟨g5, 0, none⟩) 5 cap5) (headB bits 0)) := h5
  have HO : Hid (∀ o, (w5.alloc o).ownsRow 0 5 1 (.slice (some ⟨g5, 0, none⟩) 5 cap5) 5 (byts (headB bits 0))) := fun o => H5.out.row.alloc o
  clear h5 HP H1
  cases yes with
  | true =>
    have HONR := keep (one_val 1 (by omega))
    go_wp2_with (at_builtin; refine wpList_append_lies _ rfl (.tmp 19) (.tmp 20) 29 rfl 0 5 i0 (.int .u8 0) 1 1 Try.underlying29 HI.out HZ0.out HZ1.out HZ2.out rfl (by decide) (.slice (some ⟨g5, 0, none⟩) 5 cap5) 5 (byts (headB bits 0)) rfl (HO.out _) ⟨w5.heap.size, 0, none⟩ 1 1 [.int .u8 1] rfl rfl (World.news_of_block (heap_alloc_new w5 _)) (by simp [Value.oneCell']) (by decide) (by unfold maxLen; omega) (by omega) (Nat.zero_le _) (w5.heap.size + 1) (by simp) ?_)
    intro g6 cap6 w6 hown6 hgrow6 hat6 hlt6
    have H6 : Hid (Byt w.heap.size gl ob w w6 (.slice (some ⟨g6, 0, none⟩) 6 cap6) (headB bits 0 ++ [UInt8.ofNat 1])) := H5.out.grow (m := [UInt8.ofNat 1]) rfl (by rw [HONR.out]; exact hown6) hgrow6 hat6
    clear hown6 hgrow6 hat6 hlt6 HO
    go_wp2
    go_ret
    exact ⟨_, rfl, H6.out.row, fun g hg => (H6.out.own g hg).1, H6.out.below⟩
  | false =>
    have HONR := keep (one_val 0 (by omega))
    go_wp2_with (at_builtin; refine wpList_append_lies _ rfl (.tmp 22) (.tmp 23) 29 rfl 0 5 i0 (.int .u8 0) 1 1 Try.underlying29 HI.out HZ0.out HZ1.out HZ2.out rfl (by decide) (.slice (some ⟨g5, 0, none⟩) 5 cap5) 5 (byts (headB bits 0)) rfl (HO.out _) ⟨w5.heap.size, 0, none⟩ 1 1 [.int .u8 0] rfl rfl (World.news_of_block (heap_alloc_new w5 _)) (by simp [Value.oneCell']) (by decide) (by unfold maxLen; omega) (by omega) (Nat.zero_le _) (w5.heap.size + 1) (by simp) ?_)
    intro g6 cap6 w6 hown6 hgrow6 hat6 hlt6
    have H6 : Hid (Byt w.heap.size gl ob w w6 (.slice (some ⟨g6, 0, none⟩) 6 cap6) (headB bits 0 ++ [UInt8.ofNat 0])) := H5.out.grow (m := [UInt8.ofNat 0]) rfl (by rw [HONR.out]; exact hown6) hgrow6 hat6
    clear hown6 hgrow6 hat6 hlt6 HO
    go_wp2
    go_ret
    exact ⟨_, rfl, H6.out.row, fun g hg => (H6.out.own g hg).1, H6.out.below⟩
end Go.Proofs.Ytnkipdlfpnmgeaa
namespace Go.Proofs.Ytnkipdlfpnmgeaa
open Go.RowKit Go.Maps
open Bd (Nd)

set_option maxRecDepth 4000 in
set_option maxHeartbeats 4000000 in
theorem bytes_some (bits : Nat) (hbits : bits ≤ 128) (yes : Bool) (Q : List Nd) (hQ : Q.length ≤ 1073741824) (hok : Bd.Okay bits Q) (hq0 : Q.length ≠ 0) (gl cpl : Nat) {w : World} (hrow : w.ownsRow 0 62 3 (.slice (some ⟨gl, 0, none⟩) Q.length cpl) Q.length (flat Q)) (r : Nat) :
    Calls Try.prog 29 #[.int .i64 bits, .slice (some ⟨gl, 0, none⟩) Q.length cpl, .bool yes] w fun e w' => ∃ u, e = .returned u ∧ w'.ownsRow 0 5 1 u (dumpB bits Q r).length (byts (dumpB bits Q r)) ∧ (∀ g, u.ownBlock = some g → w.heap.size ≤ g) ∧ Below w.heap.size w w' := by
  obtain ⟨q, hq⟩ : ∃ q, q = Q.length := ⟨_, rfl⟩
  have HQ := keep hq
  have HROW := keep hrow
  obtain ⟨cur, hcur⟩ := owned_cells hrow (g := gl) rfl
  have HCUR := keep hcur
  have HOK := keep hok
  rw [← hq] at hQ hq0 ⊢
  have hqI : (q : Int) ≤ 1073741824 := by omega
  have hbI : (bits : Int) ≤ 128 := by omega
  have hb0 : (0 : Int) ≤ (bits : Int) := by omega
  have hq0I : ((q : Int) == 0) = false := by rw [beq_eq_false_iff_ne]; omega
  have H1 := keep (byt_one (w := w) bits (by omega) (Below.refl w.heap.size w) (Nat.le_refl _) hcur)
  have HP := keep (four_ok H1.out q (by omega) (by simp))
  obtain ⟨i0, hi, hz0, hz1, hz2⟩ := info_parts Try.infoByteD
  have HI := keep hi
  have HZ0 := keep hz0
  have HZ1 := keep hz1
  have HZ2 := keep hz2
  clear hi hz0 hz1 hz2 hrow hcur hok hq
  go_enter Try.func29, Try.ntmps29
  go_wp2_with fail
  refine HP.out.mono ?_
  rintro e w5 ⟨g5, cap5, rfl, h5, _, _⟩
  have H5 : Hid (Byt w.heap.size gl (.cells cur 62 (0, 0)) w w5 (.slice (some ⟨g5, 0, none⟩) 5 cap5) (headB bits q)) := h5
  clear h5 HP H1
  have HQ0 := keep hq0
  clear hq0
  go_wp2
  go_loopw [7, 8] (fun p i wr => ∃ k g cp : Nat, k ≤ q ∧ i = .int .i64 k ∧ p = .slice (some ⟨g, 0, none⟩) (5 + 9 * k) cp ∧ Hid (Byt w.heap.size gl (.cells cur 62 (0, 0)) w wr (.slice (some ⟨g, 0, none⟩) (5 + 9 * k) cp) (headB bits q ++ (Q.take k).flatMap nodeB))) (fun _ i _ => q - (intOf i).toNat)
  case atStart => exact ⟨0, g5, cap5, Nat.zero_le _, rfl, rfl, by simpa using H5⟩
  case round =>
    obtain ⟨k, g, cp, hk, rfl, rfl, HB⟩ := hrel
    by_cases hlt : k < q
    · obtain ⟨x, hx⟩ : ∃ x, Q[k]? = some x := ⟨Q[k]'(by rw [← HQ.out]; exact hlt), List.getElem?_eq_getElem (by rw [← HQ.out]; exact hlt)⟩
      have hfit := HOK.out.fit k x hx
      have hQL := HQ.out
      have HT1 : Hid ((Q.take (k + 1)).flatMap nodeB = (Q.take k).flatMap nodeB ++ nodeB x) := by show _ = _; rw [take_succ_get hx, List.flatMap_append, List.flatMap_cons, List.flatMap_nil, List.append_nil]
      have hlr := row_held HROW.out HCUR.out HB.out.lst
      have hadd : ∀ j, (⟨gl, 0, none⟩ : Addr).add j = ⟨gl, j, none⟩ := by intro j; unfold Addr.add; split <;> simp_all
      obtain ⟨f0, f1, f2⟩ := flat_at hx
      have d0 := hlr.cells rfl _ _ f0
      have d1 := hlr.cells rfl _ _ f1
      have d2 := hlr.cells rfl _ _ f2
      rw [hadd] at d0 d1 d2
      have lgl := block_lt HB.out.lst
      have x0 : x.1 ≤ 128 := by omega
      have x1 : x.2.1 ≤ 1073741826 := by omega
      have x2 : x.2.2 ≤ 1073741826 := by omega
      obtain ⟨p0, p1, p2⟩ := x
      simp only [i6] at d0 d1 d2 x0 x1 x2
      have hcells : ∀ {W : World}, W.heap[gl]? = some (.cells cur 62 (0, 0)) → W.cell? ⟨gl, k * 3, none⟩ = some (.int .i64 p0) ∧ W.cell? ⟨gl, k * 3 + 1, none⟩ = some (.int .i64 p1) ∧ W.cell? ⟨gl, k * 3 + 2, none⟩ = some (.int .i64 p2) := fun {W} h => by
        have e : W.heap[gl]? = wr.heap[gl]? := h.trans HB.out.lst.symm
        exact ⟨(World.cell?_of_block e).trans d0, (World.cell?_of_block e).trans d1, (World.cell?_of_block e).trans d2⟩
      have x0I : (p0 : Int) ≤ 128 := by omega
      have x0z : (0 : Int) ≤ (p0 : Int) := by omega
      have hkI : (k : Int) < (q : Int) := by omega
      have hk0 : (0 : Int) ≤ (k : Int) := by omega
      have hln : (headB bits q ++ (Q.take k).flatMap nodeB).length = 5 + 9 * k := by
        rw [List.length_append, flat_length9, List.length_take]
        show 5 + 9 * min k Q.length = _
        omega
      have HLN := keep hln
      have HO : Hid (∀ o, (wr.alloc o).drew.ownsRow 0 5 1 (.slice (some ⟨g, 0, none⟩) (5 + 9 * k) cp) (5 + 9 * k) (byts (headB bits q ++ (Q.take k).flatMap nodeB))) := fun o => by
        have h := HB.out.row.alloc o
        rw [hln] at h
        exact h
      have HONX := one_val p0 (by omega)
      have KT : Hid (∀ (o : Obj) (w6 : World) (g6 cap6 : Nat), w6.ownsRow 0 5 1 (.slice (some ⟨g6, 0, none⟩) (5 + 9 * k + 1) cap6) (5 + 9 * k + 1) (byts (headB bits q ++ (Q.take k).flatMap nodeB) ++ [.int .u8 (IntKind.u8.wrap p0)]) → (wr.alloc o).grownBy w6 (Value.slice (some ⟨g, 0, none⟩) (5 + 9 * k) cp).ownBlock → ((Value.slice (some ⟨g, 0, none⟩) (5 + 9 * k) cp).ownBlock = some g6 ∨ g6 = wr.heap.size + 1) →
          (w6.cell? ⟨gl, k * 3, none⟩ = some (.int .i64 p0) ∧ w6.cell? ⟨gl, k * 3 + 1, none⟩ = some (.int .i64 p1) ∧ w6.cell? ⟨gl, k * 3 + 2, none⟩ = some (.int .i64 p2)) ∧
          Hid (Calls Try.prog 56 #[.slice (some ⟨g6, 0, none⟩) (5 + 9 * k + 1) cap6, .int .i64 p1] w6 fun e w7 => ∃ v7, e = .returned v7 ∧ (w7.cell? ⟨gl, k * 3, none⟩ = some (.int .i64 p0) ∧ w7.cell? ⟨gl, k * 3 + 1, none⟩ = some (.int .i64 p1) ∧ w7.cell? ⟨gl, k * 3 + 2, none⟩ = some (.int .i64 p2)) ∧
            Hid (Calls Try.prog 56 #[v7, .int .i64 p2] w7 fun e w8 => ∃ g8 c8 : Nat, e = .returned (.slice (some ⟨g8, 0, none⟩) (5 + 9 * (k + 1)) c8) ∧ (w8.cell? ⟨gl, k * 3, none⟩ = some (.int .i64 p0) ∧ w8.cell? ⟨gl, k * 3 + 1, none⟩ = some (.int .i64 p1) ∧ w8.cell? ⟨gl, k * 3 + 2, none⟩ = some (.int .i64 p2)) ∧
              Hid (Byt w.heap.size gl (.cells cur 62 (0, 0)) w w8 (.slice (some ⟨g8, 0, none⟩) (5 + 9 * (k + 1)) c8) (headB bits q ++ (Q.take (k + 1)).flatMap nodeB))))) := by
        intro o w6 g6 cap6 hown6 hgrow6 hat6
        rw [show IntKind.u8.wrap (p0 : Int) = (p0 : Int) by rw [IntKind.wrap_u8]; omega] at hown6
        have h6 : Byt w.heap.size gl (.cells cur 62 (0, 0)) w w6 (.slice (some ⟨g6, 0, none⟩) (5 + 9 * k + 1) cap6) (headB bits q ++ (Q.take k).flatMap nodeB ++ [UInt8.ofNat p0]) := HB.out.grow (m := [UInt8.ofNat p0]) (by rw [hln]; rfl) (by rw [HONX]; exact hown6) hgrow6 hat6
        have hl6 : (headB bits q ++ (Q.take k).flatMap nodeB ++ [UInt8.ofNat p0]).length = 5 + 9 * k + 1 := by rw [List.length_append, hln]; rfl
        refine ⟨hcells h6.lst, ?_⟩
        refine (four_ok h6 p1 x1 (by rw [hl6]; omega)).mono ?_
        rintro e w7 ⟨g7, cap7, rfl, h7, _, _⟩
        refine ⟨_, rfl, hcells h7.lst, ?_⟩
        have hl7 : (headB bits q ++ (Q.take k).flatMap nodeB ++ [UInt8.ofNat p0] ++ four p1).length = 5 + 9 * k + 5 := by rw [List.length_append, hl6]; rfl
        refine (four_ok h7 p2 x2 (by rw [hl7]; omega)).mono ?_
        rintro e w8 ⟨g8, cap8, rfl, h8, _, _⟩
        have e : headB bits q ++ (Q.take (k + 1)).flatMap nodeB = headB bits q ++ (Q.take k).flatMap nodeB ++ [UInt8.ofNat p0] ++ four p1 ++ four p2 := by
          rw [HT1.out]
          unfold nodeB
          simp only [List.append_assoc]
        have e8 : (headB bits q ++ (Q.take k).flatMap nodeB ++ [UInt8.ofNat p0] ++ four p1).length + 4 = 5 + 9 * (k + 1) := by rw [hl7]; omega
        rw [← e, e8] at h8
        rw [e8]
        exact ⟨g8, cap8, rfl, hcells h8.lst, h8⟩
      have hgl0 := hcells HB.out.lst
      clear hfit hlr hadd f0 f1 f2 hx hQL hln hcells d0 d1 d2 HONX
      obtain ⟨d0, d1, d2⟩ := hgl0
      go_wp2_with fail
      go_region_held3 (fun w' => w'.cell? ⟨gl, k * 3, none⟩ = some (.int .i64 p0) ∧ w'.cell? ⟨gl, k * 3 + 1, none⟩ = some (.int .i64 p1) ∧ w'.cell? ⟨gl, k * 3 + 2, none⟩ = some (.int .i64 p2)) (first | (go_keep; done) | exact S8 | exact S7 | exact S6) (first | (go_at_call 56; refine HP3.out.mono ?_; rintro e w8 ⟨g8, c8, rfl, S8, HB8⟩) | (go_at_call 56; refine HP2.out.mono ?_; rintro e w7 ⟨v7, rfl, S7, HP3⟩) | (refine step_append_lies _ rfl (.tmp 31) (.tmp 38) 29 rfl 0 5 i0 (.int .u8 0) 1 1 Try.underlying29 HI.out HZ0.out HZ1.out HZ2.out rfl (by decide) (.slice (some ⟨g, 0, none⟩) (5 + 9 * k) cp) (5 + 9 * k) (byts (headB bits q ++ (Q.take k).flatMap nodeB)) rfl (HO.out _) ⟨wr.heap.size, 0, none⟩ 1 1 [.int .u8 (IntKind.u8.wrap p0)] rfl rfl (World.news_of_block (heap_alloc_new wr _)) (by simp [Value.oneCell']) (by decide) (by unfold maxLen; omega) (by omega) (Nat.zero_le _) (wr.heap.size + 1) (by simp) ?_; intro g6 cap6 w6 hown6 hgrow6 hat6 hlt6; obtain ⟨S6, HP2⟩ := KT.out _ w6 g6 cap6 hown6 ⟨hgrow6.os, hgrow6.tape, hgrow6.output, hgrow6.size, hgrow6.block⟩ hat6; clear hown6 hgrow6 hat6))
      go_wp2
      go_roundw
      case rel => exact ⟨k + 1, g8, c8, by omega, by go_num, rfl, HB8⟩
      case measure => simp [intOf]; omega
    · have hkn : k = q := by omega
      subst hkn
      go_wp2
      go_ret
      have e : dumpB bits Q r = headB bits k ++ (Q.take k).flatMap nodeB := by
        unfold dumpB
        have hQL := HQ.out
        rw [← hQL, if_neg HQ0.out, List.take_of_length_le (by omega)]
      refine ⟨_, rfl, ?_, fun g hg => (HB.out.own g hg).1, HB.out.below⟩
      rw [e]
      exact HB.out.row
end Go.Proofs.Ytnkipdlfpnmgeaa
namespace Go.Proofs.Ytnkipdlfpnmgeaa
open Bd (Nd)

/-- The places of nodes in an order; none: 0. -/
def atOf (n : Nat) (acc : List Nat) : List Nat := (List.range n).map fun i => if (i + 2) ∈ acc then 2 + acc.idxOf (i + 2) else 0
/-- The nodes of an order. -/
def outOf (L : List Nd) (acc : List Nat) : List Nd := acc.map (rn L acc 2)
theorem atOf_length (n : Nat) (acc : List Nat) : (atOf n acc).length = n := by simp [atOf]
theorem outOf_length (L : List Nd) (acc : List Nat) : (outOf L acc).length = acc.length := by simp [outOf]
theorem atOf_at {n : Nat} (acc : List Nat) {i : Nat} (h : i < n) : (atOf n acc)[i]? = some (if (i + 2) ∈ acc then 2 + acc.idxOf (i + 2) else 0) := by
  unfold atOf
  rw [List.getElem?_map, List.getElem?_range h]; rfl
theorem atOf_nil (n : Nat) : atOf n [] = List.replicate n 0 := by
  unfold atOf
  rw [List.eq_replicate_iff]
  refine ⟨by simp, fun b hb => ?_⟩
  rw [List.mem_map] at hb
  obtain ⟨i, _, rfl⟩ := hb
  simp
theorem idx_snoc_old {acc : List Nat} {m c : Nat} (h : c ∈ acc) : (acc ++ [m]).idxOf c = acc.idxOf c := by rw [List.idxOf_append, if_pos h]
theorem idx_snoc_new {acc : List Nat} {m : Nat} (h : m ∉ acc) : (acc ++ [m]).idxOf m = acc.length := by rw [List.idxOf_append, if_neg h]; simp
theorem atOf_snoc {n : Nat} {acc : List Nat} {m : Nat} (hm : m ∉ acc) (h2 : 2 ≤ m) (hl : m < n + 2) : atOf n (acc ++ [m]) = (atOf n acc).set (m - 2) (2 + acc.length) := by
  apply List.ext_getElem?
  intro i
  rcases Nat.lt_or_ge i n with hi | hi
  · rw [atOf_at _ hi, List.getElem?_set]
    by_cases e : m - 2 = i
    · have e' : i + 2 = m := by omega
      rw [e', if_pos (show m ∈ acc ++ [m] by simp), idx_snoc_new hm, if_pos e, if_pos (by rw [atOf_length]; omega)]
    · rw [if_neg e, atOf_at _ hi]
      by_cases h : (i + 2) ∈ acc
      · rw [if_pos (List.mem_append_left _ h), if_pos h, idx_snoc_old h]
      · rw [if_neg (fun h' => by
          rcases List.mem_append.1 h' with h1 | h1
          · exact h h1
          · simp at h1; omega), if_neg h]
  · rw [List.getElem?_eq_none (by rw [atOf_length]; omega), List.getElem?_eq_none (by rw [List.length_set, atOf_length]; omega)]
theorem nm_snoc {acc : List Nat} {m c : Nat} (h2 : 2 ≤ m) (hc : c < 2 ∨ c ∈ acc) : nm (acc ++ [m]) 2 c = nm acc 2 c := by
  unfold nm
  by_cases h : c ∈ acc
  · rw [if_pos (List.mem_append_left _ h), if_pos h, idx_snoc_old h]
  · have hc' : c < 2 := hc.resolve_right h
    rw [if_neg (fun h' => by
      rcases List.mem_append.1 h' with h1 | h1
      · exact h h1
      · simp at h1; omega), if_neg h]
theorem nm_low {acc : List Nat} (hacc : ∀ m, m ∈ acc → 2 ≤ m) {c : Nat} (hc : c < 2) : nm acc 2 c = c := by
  unfold nm
  rw [if_neg (fun h => by have := hacc c h; omega)]
theorem nm_high {n : Nat} {acc : List Nat} {c : Nat} (h : c ∈ acc) (h2 : 2 ≤ c) (hl : c < n + 2) : (atOf n acc)[c - 2]? = some (nm acc 2 c) := by
  rw [atOf_at _ (by omega)]
  have e : c - 2 + 2 = c := by omega
  unfold nm
  rw [e, if_pos h, if_pos h]
theorem outOf_snoc {L : List Nd} {acc : List Nat} {m : Nat} (h2 : 2 ≤ m) (hC : Closed L 2 acc) (hm : ∀ c, (c = (L.getD (m - 2) (0, 0, 0)).2.1 ∨ c = (L.getD (m - 2) (0, 0, 0)).2.2) → c < 2 ∨ c ∈ acc) : outOf L (acc ++ [m]) = outOf L acc ++ [rn L acc 2 m] := by
  unfold outOf
  rw [List.map_append, List.map_cons, List.map_nil]
  have key : ∀ x, (∀ c, (c = (L.getD (x - 2) (0, 0, 0)).2.1 ∨ c = (L.getD (x - 2) (0, 0, 0)).2.2) → c < 2 ∨ c ∈ acc) → rn L (acc ++ [m]) 2 x = rn L acc 2 x := fun x hx => by
    unfold rn
    rw [nm_snoc h2 (hx _ (Or.inl rfl)), nm_snoc h2 (hx _ (Or.inr rfl))]
  rw [key m hm]
  congr 1
  apply List.map_congr_left
  intro x hx
  obtain ⟨j, hj, hjx⟩ := List.getElem_of_mem hx
  refine key x fun c hc => ?_
  rcases hC j x (by rw [List.getElem?_eq_getElem hj, hjx]) c hc with h | ⟨i, _, hi⟩
  · exact Or.inl h
  · exact Or.inr (List.mem_of_getElem? hi)

/-- What walk works out. -/
theorem vis_step {L : List Nd} (hL : Falls L) {k n : Nat} {acc : List Nat} (h2 : 2 ≤ n) (hn : n < L.length + 2) (hk : n < k + 1) (hm : n ∉ acc) (hC : Closed L 2 acc) {x : Nd} (hx : L[n - 2]? = some x) :
    vis L 2 (k + 1) n acc = vis L 2 k x.2.2 (vis L 2 k x.2.1 acc) ++ [n] ∧ n ∉ vis L 2 k x.2.2 (vis L 2 k x.2.1 acc) ∧ Closed L 2 (vis L 2 k x.2.1 acc) ∧ Closed L 2 (vis L 2 k x.2.2 (vis L 2 k x.2.1 acc)) ∧ (x.2.1 < 2 ∨ x.2.1 ∈ vis L 2 k x.2.2 (vis L 2 k x.2.1 acc)) ∧ (x.2.2 < 2 ∨ x.2.2 ∈ vis L 2 k x.2.2 (vis L 2 k x.2.1 acc)) := by
  have e : L.getD (n - 2) (0, 0, 0) = x := by rw [List.getD_eq_getElem?_getD, hx]; rfl
  have hf := hL _ _ hx
  have C1 := vis_closed L 2 hL (by omega) k x.2.1 acc (by omega) (by omega) hC
  refine ⟨?_, ?_, C1, vis_closed L 2 hL (by omega) k x.2.2 _ (by omega) (by omega) C1, ?_, ?_⟩
  · show (if n < 2 then acc else if n ∈ acc then acc else vis L 2 k (L.getD (n - 2) (0, 0, 0)).2.2 (vis L 2 k (L.getD (n - 2) (0, 0, 0)).2.1 acc) ++ [n]) = _
    rw [if_neg (by omega), if_neg hm, e]
  · intro h
    rcases vis_mem L 2 hL (by omega) _ _ _ _ (by omega) h with h | h
    · rcases vis_mem L 2 hL (by omega) _ _ _ _ (by omega) h with h | h
      · exact hm h
      · omega
    · omega
  · rcases vis_has L 2 k x.2.1 acc (by omega) with h | h
    · exact Or.inl h
    · exact Or.inr (vis_keeps L 2 _ _ _ _ h)
  · exact vis_has L 2 k x.2.2 _ (by omega)
end Go.Proofs.Ytnkipdlfpnmgeaa
namespace Go.Proofs.Ytnkipdlfpnmgeaa
open Go.RowKit Go.Maps
open Bd (Nd)

/-- On the way: the places lie in g, the nodes in v; all below B is as it was in w0. -/
structure WalkAt (B : Nat) (w0 w : World) (L : List Nd) (g cap : Nat) (v : Value) (acc : List Nat) : Prop where
  row : w.ownsRow 0 3 1 (.slice (some ⟨g, 0, none⟩) L.length cap) L.length (nums (atOf L.length acc))
  out : w.ownsRow 0 62 3 v acc.length (flat (outOf L acc))
  own : ∀ j, v.ownBlock = some j → B ≤ j ∧ j ≠ g
  at_ : B ≤ g
  below : Below B w0 w
  size : B ≤ w.heap.size
section
variable {B : Nat} {w0 w : World} {L : List Nd} {g cap : Nat} {v : Value} {acc : List Nat}
theorem WalkAt.later (h : WalkAt B w0 w L g cap v acc) {w' : World} (hb : Below w.heap.size w w') : WalkAt B w0 w' L g cap v acc := by
  refine ⟨row_same h.row fun k hk => hb.block k ?_, row_same h.out fun k hk => hb.block k ?_, h.own, h.at_, h.below.trans (hb.mono h.size), Nat.le_trans h.size hb.size⟩
  · obtain ⟨cur, hc⟩ := owned_cells h.row hk
    exact block_lt hc
  · obtain ⟨cur, hc⟩ := owned_cells h.out hk
    exact block_lt hc
theorem nums_set (l : List Nat) (i n : Nat) : (nums l).set i (i6 n) = nums (l.set i n) := by simp [nums, List.map_set]
/-- A node's place is told. -/
theorem WalkAt.place (h : WalkAt B w0 w L g cap v acc) {n : Nat} (h2 : 2 ≤ n) (hn : n < L.length + 2) (hm : n ∉ acc) :
    (w.setCell ⟨g, n - 2, none⟩ (i6 (2 + acc.length))).ownsRow 0 3 1 (.slice (some ⟨g, 0, none⟩) L.length cap) L.length (nums (atOf L.length (acc ++ [n]))) ∧ (w.setCell ⟨g, n - 2, none⟩ (i6 (2 + acc.length))).ownsRow 0 62 3 v acc.length (flat (outOf L acc)) := by
  refine ⟨?_, row_same h.out fun k hk => set_other _ (h.own k hk).2⟩
  have := (h.row.stored (n - 2) (i6 (2 + acc.length))).1
  rw [nums_set, ← atOf_snoc hm h2 hn] at this
  exact this
/-- And it lies behind the others. -/
theorem WalkAt.put (h : WalkAt B w0 w L g cap v acc) {n : Nat} (h2 : 2 ≤ n) (hn : n < L.length + 2) (hm : n ∉ acc) (hC : Closed L 2 acc) {x : Nd} (hx : L[n - 2]? = some x) (hl : x.2.1 < 2 ∨ x.2.1 ∈ acc) (hh : x.2.2 < 2 ∨ x.2.2 ∈ acc)
    {o : Obj} {w' : World} {g' cap' : Nat} (hown : w'.ownsRow 0 62 3 (.slice (some ⟨g', 0, none⟩) (acc.length + 1) cap') (acc.length + 1) (flat (outOf L acc) ++ [i6 x.1, i6 (nm acc 2 x.2.1), i6 (nm acc 2 x.2.2)]))
    (hg : ((w.setCell ⟨g, n - 2, none⟩ (i6 (2 + acc.length))).alloc o).grownBy w' v.ownBlock) (hat : v.ownBlock = some g' ∨ g' = w.heap.size + 1) : WalkAt B w0 w' L g cap (.slice (some ⟨g', 0, none⟩) (acc.length + 1) cap') (acc ++ [n]) := by
  obtain ⟨hr, _⟩ := h.place h2 hn hm
  obtain ⟨cur, hcg⟩ := owned_cells h.row (g := g) rfl
  have lg := block_lt hcg
  have hsz : w.heap.size + 1 ≤ w'.heap.size := by have := hg.size; simpa using this
  have old : ∀ k, k < w.heap.size → v.ownBlock ≠ some k → w'.heap[k]? = (w.setCell ⟨g, n - 2, none⟩ (i6 (2 + acc.length))).heap[k]? := fun k hk hne => (hg.block k (by simp; omega) (fun e => hne e.symm)).trans (heap_alloc_old _ o (by simpa using hk))
  have hng : v.ownBlock ≠ some g := fun e => (h.own g e).2 rfl
  have e : L.getD (n - 2) (0, 0, 0) = x := by rw [List.getD_eq_getElem?_getD, hx]; rfl
  have hout : outOf L (acc ++ [n]) = outOf L acc ++ [(x.1, nm acc 2 x.2.1, nm acc 2 x.2.2)] := by
    rw [outOf_snoc h2 hC (fun c hc => by
      rw [e] at hc
      rcases hc with rfl | rfl
      · exact hl
      · exact hh)]
    unfold rn
    rw [e]
  refine ⟨row_same hr fun k hk => ?_, ?_, fun j hj => ?_, h.at_, ⟨?_, ?_, ?_, ?_, fun k hk => ?_⟩, ?_⟩
  · have ek : g = k := Option.some.inj hk
    subst ek
    exact old g lg hng
  · rw [hout, flat_snoc, List.length_append]
    exact hown
  · have ej : g' = j := Option.some.inj hj
    subst ej
    rcases hat with h1 | h1
    · exact h.own g' h1
    · have := h.size
      exact ⟨by omega, by omega⟩
  · rw [hg.os]; exact h.below.os
  · rw [hg.tape]; exact h.below.tape
  · rw [hg.output]; exact h.below.output
  · have := h.below.size; omega
  · have h1 := h.size
    have h3 := h.at_
    rw [old k (by omega) (fun e => by have := (h.own k e).1; omega), set_other _ (show k ≠ g by omega)]
    exact h.below.block k hk
  · have := h.size; omega
end
/-- What a call of walk leaves as it was. -/
structure Went (w : World) (g : Nat) (v : Value) (w' : World) (v' : Value) : Prop where
  block : ∀ j, j < w.heap.size → j ≠ g → v.ownBlock ≠ some j → w'.heap[j]? = w.heap[j]?
  own : ∀ j, v'.ownBlock = some j → v.ownBlock = some j ∨ w.heap.size ≤ j
  size : w.heap.size ≤ w'.heap.size
theorem Went.refl (w : World) (g : Nat) (v : Value) : Went w g v w v := ⟨fun _ _ _ _ => rfl, fun _ h => Or.inl h, Nat.le_refl _⟩
theorem Went.trans {w w1 w2 : World} {g : Nat} {v v1 v2 : Value} (h : Went w g v w1 v1) (h' : Went w1 g v1 w2 v2) : Went w g v w2 v2 := by
  refine ⟨fun j hj h1 h2 => ?_, fun j hj => ?_, Nat.le_trans h.size h'.size⟩
  · rw [h'.block j (Nat.lt_of_lt_of_le hj h.size) h1 (fun e => by
      rcases h.own j e with h3 | h3
      · exact h2 h3
      · omega)]
    exact h.block j hj h1 h2
  · rcases h'.own j hj with h1 | h1
    · exact h.own j h1
    · exact Or.inr (Nat.le_trans h.size h1)
theorem Went.alloc (w : World) (g : Nat) (v : Value) (o : Obj) : Went w g v (w.alloc o) v := ⟨fun _ hj _ _ => heap_alloc_old w o hj, fun _ h => Or.inl h, by simp⟩
theorem Went.last {w w' : World} {g i g' n cap : Nat} {v u : Value} {o : Obj} (hg : ((w.setCell ⟨g, i, none⟩ u).alloc o).grownBy w' v.ownBlock) (hat : v.ownBlock = some g' ∨ g' = w.heap.size + 1) : Went w g v w' (.slice (some ⟨g', 0, none⟩) n cap) := by
  refine ⟨fun j hj h1 h2 => ?_, fun j hj => ?_, by have := hg.size; simp at this; omega⟩
  · rw [hg.block j (by simp; omega) (fun e => h2 e.symm), heap_alloc_old _ o (by simpa using hj)]
    exact set_other _ h1
  · have ej : g' = j := Option.some.inj hj
    subst ej
    rcases hat with h | h
    · exact Or.inl h
    · exact Or.inr (by omega)
/-- The form of a row's slice. -/
theorem row_form {w : World} {e : TypeId} {size : Nat} {v : Value} {n : Nat} {xs : List Value} (h : w.ownsRow 0 e size v n xs) : ∃ ao c, v = .slice ao n c := by
  rcases h.2 with ⟨e1, e2⟩ | ⟨g, c, _, e1, _⟩
  · exact ⟨none, 0, by rw [e1, e2]⟩
  · exact ⟨_, _, e1⟩
end Go.Proofs.Ytnkipdlfpnmgeaa
