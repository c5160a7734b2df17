/-
  The document's action of a line: the walk.
-/
import Derived.Test.YtemmhingmeinjaaGreatDoorUDocBAnd
namespace Go.Proofs.YtemmhingmeinjaaGreatDoor
open Go.RowKit
open Wo (Wd)

set_option maxRecDepth 4000 in
set_option maxHeartbeats 4000000 in
theorem daction {w : World} {rb g : Nat} {l : List Wd} {i : Nat} (h : RfAt w rb g l i 0 0 0) :
    Calls Tryz.prog 83 #[.pointer (some ⟨rb, 0, none⟩)] w fun en w' => DActPost w rb g l i en w' := by
  have hrb := h.lt
  have hgl := h.ok.at_.1
  have hlen := h.ok.len
  have hle := h.le
  have HR := hid (show DOn w rb g l i 0 0 0 (w.alloc (aob 0 (.slice none 0 0))) from ⟨h.alloc _, grown_alloc _ _ _⟩)
  obtain ⟨x, hx⟩ : ∃ x, x = atW l i := ⟨_, rfl⟩
  have HW := hid HR.out.word
  have HFl := hid (fun wr (q : DOn w rb g l i 0 0 0 wr) => q.fail 51)
  have HLT := hid (fun q : x.1 ≠ [] => atW_lt h.le (by rw [← hx]; exact q))
  rw [← hx] at HW HFl
  have hfl := wv_text x
  have HX := hid hx
  clear h hx
  by_cases h1 : x.1 = [100, 114, 111, 112]
  · have b1 : (x.1 == [100, 114, 111, 112]) = true := by simpa using h1
    have hlt := HLT.out (by rw [h1]; simp)
    have HACT := hid (act_one HX.out h1)
    have hiI : (i : Int) ≤ 1048576 := by omega
    have hi0 : (0 : Int) ≤ (i : Int) := by omega
    clear h1
    go_enter Tryz.func83, Tryz.ntmps83
    go_wp2_with fail
    refine HW.out.mono ?_
    rintro en w1 ⟨rfl, HB1, H1⟩
    obtain ⟨k1, k2, k3, k4, f1, f2, f3, f4⟩ := H1.out.rf.cells
    have RB1 := below_block HB1.out (new_0 w (aob 0 (.slice none 0 0))) (by simp)
    have R2 := hid (H1.out.step (i + 1) hlt)
    have RB2 := block_other (o := 1) (.int .i64 ((i + 1 : Nat) : Int)) RB1 (g := rb) (by omega)
    have c0 := cell_at (o := 0) RB2
    have c1 := cell_at (o := 1) RB2
    simp only [List.getElem?_toArray, List.getElem?_cons_succ, List.getElem?_cons_zero] at c0 c1
    have e0 := free_of (o := 0) RB2
    have e1 := free_of (o := 1) RB2
    have RB3 := act_store (k := 1) (v := .slice none 0 0) RB2
    have m0 := cell_at (o := 0) RB3
    have m1 := cell_at (o := 1) RB3
    simp only [List.getElem?_toArray, List.getElem?_cons_succ, List.getElem?_cons_zero] at m0 m1
    push_cast at c0 c1 e0 e1 m0 m1
    clear RB1 RB2 RB3
    go_wp2
    refine bodyPost_ret (v := .agg #[.int .i64 1, .slice none 0 0]) (by simp [results, Tryz.results83, go_sem, m0, m1]) rfl ?_
    have R3 := (R2.out.new (B := w.heap.size) (o := 0) (.int .i64 1) hrb hgl (Nat.le_refl _)).new (B := w.heap.size) (o := 1) (.slice none 0 0) hrb hgl (Nat.le_refl _)
    push_cast at R3
    exact ⟨R3.on, 1, _, rfl, ⟨_, _, _, rfl⟩, Or.inl ⟨[], i + 1, HACT.out, R3.rf, Or.inl ⟨rfl, rfl⟩⟩⟩
  · by_cases h2 : x.1 = [100, 101, 108, 105, 118, 101, 114]
    · have b1 : (x.1 == [100, 114, 111, 112]) = false := by simpa using h1
      have b2 : (x.1 == [100, 101, 108, 105, 118, 101, 114]) = true := by simpa using h2
      have hlt := HLT.out (by rw [h2]; simp)
      have HACT := hid (act_two HX.out h2)
      have hiI : (i : Int) ≤ 1048576 := by omega
      have hi0 : (0 : Int) ≤ (i : Int) := by omega
      clear h1 h2
      go_enter Tryz.func83, Tryz.ntmps83
      go_wp2_with fail
      refine HW.out.mono ?_
      rintro en w1 ⟨rfl, HB1, H1⟩
      obtain ⟨k1, k2, k3, k4, f1, f2, f3, f4⟩ := H1.out.rf.cells
      have RB1 := below_block HB1.out (new_0 w (aob 0 (.slice none 0 0))) (by simp)
      have R2 := hid (H1.out.step (i + 1) hlt)
      have RB2 := block_other (o := 1) (.int .i64 ((i + 1 : Nat) : Int)) RB1 (g := rb) (by omega)
      have c0 := cell_at (o := 0) RB2
      have c1 := cell_at (o := 1) RB2
      simp only [List.getElem?_toArray, List.getElem?_cons_succ, List.getElem?_cons_zero] at c0 c1
      have e0 := free_of (o := 0) RB2
      have e1 := free_of (o := 1) RB2
      have RB3 := act_store (k := 2) (v := .slice none 0 0) RB2
      have m0 := cell_at (o := 0) RB3
      have m1 := cell_at (o := 1) RB3
      simp only [List.getElem?_toArray, List.getElem?_cons_succ, List.getElem?_cons_zero] at m0 m1
      push_cast at c0 c1 e0 e1 m0 m1
      clear RB1 RB2 RB3
      go_wp2
      refine bodyPost_ret (v := .agg #[.int .i64 2, .slice none 0 0]) (by simp [results, Tryz.results83, go_sem, m0, m1]) rfl ?_
      have R3 := (R2.out.new (B := w.heap.size) (o := 0) (.int .i64 2) hrb hgl (Nat.le_refl _)).new (B := w.heap.size) (o := 1) (.slice none 0 0) hrb hgl (Nat.le_refl _)
      push_cast at R3
      exact ⟨R3.on, 2, _, rfl, ⟨_, _, _, rfl⟩, Or.inl ⟨[], i + 1, HACT.out, R3.rf, Or.inl ⟨rfl, rfl⟩⟩⟩
    · by_cases h3 : x.1 = [97, 108, 108]
      · have b1 : (x.1 == [100, 114, 111, 112]) = false := by simpa using h1
        have b2 : (x.1 == [100, 101, 108, 105, 118, 101, 114]) = false := by simpa using h2
        have b3 : (x.1 == [97, 108, 108]) = true := by simpa using h3
        have b4 : (x.1 == [97, 110, 121]) = false := by rw [h3]; rfl
        have hlt := HLT.out (by rw [h3]; simp)
        have HKIND := hid (act_three HX.out h3)
        have hiI : (i : Int) ≤ 1048576 := by omega
        have hi0 : (0 : Int) ≤ (i : Int) := by omega
        clear h1 h2 h3
        go_enter Tryz.func83, Tryz.ntmps83
        go_wp2_with fail
        refine HW.out.mono ?_
        rintro en w1 ⟨rfl, HB1, H1⟩
        obtain ⟨k1, k2, k3, k4, f1, f2, f3, f4⟩ := H1.out.rf.cells
        have RB1 := hid (below_block HB1.out (new_0 w (aob 0 (.slice none 0 0))) (by simp))
        have ka1 := alloc_cell k1 H1.out.rf.lt
        have fa1 : ∀ ob, (w1.alloc ob).frozen? ⟨rb, 1, none⟩ = false := by
          obtain ⟨cap, hc⟩ := H1.out.rf.blk
          exact alloc_free hc
        have hsz1 : w.heap.size < w1.heap.size := by have := HB1.out.size; simp at this; omega
        have R2 := hid ((H1.out.alloc (aob 3 (.slice none 0 0))).step (i + 1) hlt)
        have RB2 := hid (block_other (o := 1) (.int .i64 ((i + 1 : Nat) : Int)) (new_old _ (aob 3 (.slice none 0 0)) RB1.out) (g := rb) (by omega))
        have AB2 := hid (block_other (o := 1) (.int .i64 ((i + 1 : Nat) : Int)) (new_0 w1 (aob 3 (.slice none 0 0))) (g := rb) (by omega))
        push_cast at R2 RB2 AB2
        go_wp2_with fail
        refine (R2.out.must [40] (by simp) 51).mono ?_
        rintro en w2 ⟨rfl, HG2, ⟨HQ2, H2⟩ | ⟨HQ2, H2⟩⟩
        rotate_left
        · have RB3 := block_grow RB2.out HG2.out (by omega)
          have AB3 := block_grow AB2.out HG2.out (by omega)
          obtain ⟨q1, q2, q3, q4, _⟩ := H2.out.rf.cells
          have c0 := cell_at (o := 0) RB3
          have c1 := cell_at (o := 1) RB3
          have d0 := cell_at (o := 0) AB3
          have d1 := cell_at (o := 1) AB3
          simp only [List.getElem?_toArray, List.getElem?_cons_succ, List.getElem?_cons_zero] at c0 c1 d0 d1
          have e0 := free_of (o := 0) RB3
          have e1 := free_of (o := 1) RB3
          have RB4 := act_store (k := 3) (v := .slice none 0 0) RB3
          have m0 := cell_at (o := 0) RB4
          have m1 := cell_at (o := 1) RB4
          simp only [List.getElem?_toArray, List.getElem?_cons_succ, List.getElem?_cons_zero] at m0 m1
          have HACT := hid (act_err HKIND.out (by omega) (show Ru.prt (Ru.endW l) (l.drop (i + 1)) = .error (Ru.ft (atW l (i + 1)) 51) from if_pos HQ2.out))
          clear RB3 AB3 RB4
          go_wp2_with fail
          refine wp_loop_rounds 1 ?_
          rw [rounds_succ]
          go_wp2_with fail
          refine (Must_bad H2.out.rf (by decide) _ _).mono ?_
          rintro en w3 ⟨rfl, rfl⟩
          go_wp2
          refine bodyPost_ret (v := .agg #[.int .i64 3, .slice none 0 0]) (by simp [results, Tryz.results83, go_sem, m0, m1]) rfl ?_
          have R3 := (H2.out.new (B := w.heap.size) (o := 0) (.int .i64 3) hrb hgl (Nat.le_refl _)).new (B := w.heap.size) (o := 1) (.slice none 0 0) hrb hgl (Nat.le_refl _)
          exact ⟨R3.on, 3, _, rfl, ⟨_, _, _, rfl⟩, Or.inr ⟨Ru.ft (atW l (i + 1)) 51, i + 1, HACT.out, (by simp [Ru.ft]), R3.rf⟩⟩
        have JS := hid (DInv.start (k := 3) HQ2.out H2.out (block_grow RB2.out HG2.out (by omega)) (block_grow AB2.out HG2.out (by omega)))
        clear k1 k2 k3 k4 f1 f2 f3 f4 ka1 fa1
        go_wp2_with fail
        go_loopw [] (fun wr => ∃ j acc v, Hid (DInv w rb g l i 3 w1.heap.size j acc v wr)) (fun wr => l.length - posN wr rb)
        case atStart => exact ⟨_, _, _, JS⟩
        case round =>
          obtain ⟨j, acc, v, J⟩ := hrel
          obtain ⟨q1, q2, q3, q4, p1, p2, p3, p4⟩ := J.out.on.rf.cells
          obtain ⟨y, hy⟩ : ∃ y, y = atW l j := ⟨_, rfl⟩
          have hjl := J.out.on.rf.le
          have hfew := J.out.few
          have HY := hid hy
          have HWD := hid (fun wr' (q : DOn w rb g l j 0 0 0 wr') => q.word)
          have HF31 := hid (fun wr' (q : DOn w rb g l j 0 0 0 wr') => q.fail 31)
          have hys : y.1.length ≤ 1048576 := by rw [hy]; exact atW_short J.out.on.rf.ok j
          rw [← hy] at HWD HF31
          have hyl := wv_text y
          have HNM := hid (fun w' => uRName y.1 w' hys)
          clear hy
          rcases bool_two (Wo.nameB y.1) with hn | hn
          · rw [hn] at HNM
            have HP := hid (J.out.fault31 HY.out hn)
            have HACT := hid (act_err HKIND.out (by omega) HP.out)
            obtain ⟨ao, vn, vc, rfl⟩ := J.out.ports.form
            clear hn
            go_wp2_with fail
            refine (HWD.out _ J.out.on).mono ?_
            rintro en w3 ⟨rfl, HB3, H3⟩
            go_wp2_with fail
            refine (HNM.out _).mono ?_
            rintro en w4 ⟨rfl, rfl⟩
            go_wp2_with fail
            refine (HF31.out _ H3.out).mono ?_
            rintro en w5 ⟨rfl, HG5, H5⟩
            have RB3 := block_grow (below_block HB3.out J.out.res (lt_of_block J.out.res)) HG5.out (by omega)
            have AB3 := block_grow (below_block HB3.out J.out.ablk (lt_of_block J.out.ablk)) HG5.out (by omega)
            have c0 := cell_at (o := 0) RB3
            have c1 := cell_at (o := 1) RB3
            have d0 := cell_at (o := 0) AB3
            have d1 := cell_at (o := 1) AB3
            simp only [List.getElem?_toArray, List.getElem?_cons_succ, List.getElem?_cons_zero] at c0 c1 d0 d1
            have e0 := free_of (o := 0) RB3
            have e1 := free_of (o := 1) RB3
            have RB4 := act_store (k := 3) (v := .slice ao vn vc) RB3
            have m0 := cell_at (o := 0) RB4
            have m1 := cell_at (o := 1) RB4
            simp only [List.getElem?_toArray, List.getElem?_cons_succ, List.getElem?_cons_zero] at m0 m1
            clear RB3 AB3 RB4
            go_wp2
            refine bodyPost_ret (v := .agg #[.int .i64 3, .slice ao vn vc]) (by simp [results, Tryz.results83, go_sem, m0, m1]) rfl ?_
            have R3 := (H5.out.new (B := w.heap.size) (o := 0) (.int .i64 3) hrb hgl (Nat.le_refl _)).new (B := w.heap.size) (o := 1) (.slice ao vn vc) hrb hgl (Nat.le_refl _)
            exact ⟨R3.on, 3, _, rfl, ⟨_, _, _, rfl⟩, Or.inr ⟨Ru.ft y 31, j, HACT.out, (by simp [Ru.ft]), R3.rf⟩⟩
          · rw [hn] at HNM
            have HN := hid hn
            have hlt : j < l.length := atW_lt hjl (by rw [← HY.out]; intro q; rw [q] at hn; exact absurd hn (by decide))
            clear hn
            obtain ⟨ao, vn, vc, rfl⟩ := J.out.ports.form
            go_wp2_with fail
            refine (HWD.out _ J.out.on).mono ?_
            rintro en w3 ⟨rfl, HB3, H3⟩
            go_wp2_with fail
            refine (HNM.out _).mono ?_
            rintro en w4 ⟨rfl, rfl⟩
            have A3 := below_block HB3.out J.out.ablk (lt_of_block J.out.ablk)
            have c3 := cell_at (o := 1) A3
            simp only [List.getElem?_toArray, List.getElem?_cons_succ, List.getElem?_cons_zero] at c3
            have HA3 := hid A3
            have HR3 := hid (below_block HB3.out J.out.res (lt_of_block J.out.res))
            have HP3 := hid (J.out.ports.kept (w' := w4) fun b cs hb _ => HB3.out.block b (lt_of_block hb))
            have hnl : (Ru.nrm acc).length ≤ 1048576 := Nat.le_trans (nrm_le acc) (by omega)
            clear A3
            go_wp2_with fail
            go_region_with (first | (go_at_call 118; refine (put_ports (B := 0) (zs := Ru.nrm acc) ?_ y.1 hnl).mono ?_; exact HP5.out; rintro en w6 ⟨v', rfl, HP6, HB6⟩; have c6 := cell_at (o := 1) (below_block HB6.out HA5.out (lt_of_block HA5.out)); have f6 := free_of (o := 1) (below_block HB6.out HA5.out (lt_of_block HA5.out)); obtain ⟨po, pn, pc, rfl⟩ := HP6.out.form; simp only [List.getElem?_toArray, List.getElem?_cons_succ, List.getElem?_cons_zero] at c6) | (go_at_call 82; refine (HWD.out _ ?_).mono ?_; exact H3.out.below (Below.refl _ _).drew; rintro en w5 ⟨rfl, HB5, H5⟩; have HA5 := hid (below_block HB5.out (w := w4.drew) HA3.out (lt_of_block HA3.out)); have c5 := cell_at (o := 1) HA5.out; have HR5 := hid (below_block HB5.out (w := w4.drew) HR3.out (lt_of_block HR3.out)); have HP5 := hid (HP3.out.kept (w' := w5) fun b cs hb _ => HB5.out.block b (lt_of_block hb)); simp only [List.getElem?_toArray, List.getElem?_cons_succ, List.getElem?_cons_zero] at c5))
            · have BP := hid (((((J.out.bes.below HB3.out).below (W' := w4.drew) (Below.refl _ _).drew).below HB5.out).below HB6.out).ports_set (by omega) HP6.out)
              have DP := hid ((H5.out.below HB6.out).new (B := w1.heap.size) (o := 1) (.slice po pn pc) hrb hgl (by omega))
              have D7 := hid (DP.out.step (j + 1) hlt)
              have B7 := hid (BP.out.grown (W' := (w6.setCell ⟨w1.heap.size, 1, none⟩ (.slice po pn pc)).setCell ⟨rb, 1, none⟩ (.int .i64 ((j + 1 : Nat) : Int))) DP.out.rf (grown_set _ _ _ _) (by omega) (by omega))
              obtain ⟨i1, i2, i3, i4, j1, j2, j3, j4⟩ := DP.out.rf.cells
              push_cast at D7 B7
              have hjI : (j : Int) ≤ 1048576 := by omega
              have hj0 : (0 : Int) ≤ (j : Int) := by omega
              have HPR := hid (J.out.step1 HY.out HN.out)
              obtain ⟨y2, hy2⟩ : ∃ y2, y2 = atW l (j + 1) := ⟨_, rfl⟩
              have HWD2 := hid (fun wr' (q : DOn w rb g l (j + 1) 0 0 0 wr') => q.word)
              have HF3 := hid (fun wr' (q : DOn w rb g l (j + 1) 0 0 0 wr') => q.fail 3)
              have HM51 := hid (fun wr' (q : DOn w rb g l (j + 1) 0 0 0 wr') => q.must [41] (by simp) 51)
              rw [← hy2] at HWD2 HF3 HPR HM51
              have HY2 := hid hy2
              have hyl2 := wv_text y2
              have HLT2 := hid (fun q : y2.1 ≠ [] => atW_lt (l := l) (i := j + 1) hlt (by rw [← hy2]; exact q))
              clear hy2 c6 f6 c5 c3
              by_cases h44 : y2.1 = [44]
              · have hb44 : (y2.1 == [44]) = true := by simpa using h44
                have hlt2 := HLT2.out (by rw [h44]; simp)
                have HPN := hid (fin_more HPR.out h44)
                clear h44
                go_wp2_with fail
                refine (HWD2.out _ D7.out).mono ?_
                rintro en w8 ⟨rfl, HB8, H8⟩
                obtain ⟨r1, r2, r3, r4, t1, t2, t3, t4⟩ := H8.out.rf.cells
                have JN := hid (show DInv w rb g l i 3 w1.heap.size (j + 1 + 1) (acc ++ [y.1]) (.slice po pn pc) (w8.setCell ⟨rb, 1, none⟩ (.int .i64 ((j + 1 + 1 : Nat) : Int))) from by
                  have b8 := (B7.out.below HB8.out).grown (W' := w8.setCell ⟨rb, 1, none⟩ (.int .i64 ((j + 1 + 1 : Nat) : Int))) H8.out.rf (grown_set _ _ _ _) (by omega) (by omega)
                  exact ⟨H8.out.step (j + 1 + 1) hlt2, b8.res, b8.ablk, by rw [Ru.nrm_snoc]; exact b8.ports, by simp only [List.length_append, List.length_singleton]; omega, HPN.out⟩)
                push_cast at r1 JN
                go_wp2
                go_roundw
                case rel => exact ⟨j + 1 + 1, _, _, JN⟩
                case measure =>
                  rw [JN.out.on.posN, J.out.on.posN]; omega
              · have hb44 : (y2.1 == [44]) = false := by simpa using h44
                by_cases h41 : y2.1 = [41]
                · have hb41 : (y2.1 == [41]) = true := by simpa using h41
                  have HPE := hid (fin_end HPR.out h44 h41)
                  rw [Ru.nrm_snoc] at HPE
                  have hpn := HP6.out.len
                  have HPN := hid hpn
                  have H41 := hid h41
                  clear h44 h41 hpn
                  by_cases h64 : 64 < (Ru.put (Ru.nrm acc) y.1).length
                  · have h64I : (64 : Int) < (pn : Int) := by rw [HPN.out]; omega
                    have HACT := hid (act_err HKIND.out (by omega) (HPE.out.trans (if_pos h64)))
                    clear h64
                    go_wp2_with fail
                    refine (HWD2.out _ D7.out).mono ?_
                    rintro en w8 ⟨rfl, HB8, H8⟩
                    obtain ⟨r1, r2, r3, r4, _⟩ := H8.out.rf.cells
                    go_wp2_with fail
                    refine (HWD2.out _ H8.out).mono ?_
                    rintro en w9 ⟨rfl, HB9, H9⟩
                    have B9 := hid ((B7.out.below HB8.out).below HB9.out)
                    have g0 := cell_at (o := 1) B9.out.ablk
                    simp only [List.getElem?_toArray, List.getElem?_cons_succ, List.getElem?_cons_zero] at g0
                    go_wp2_with fail
                    refine (HF3.out _ H9.out).mono ?_
                    rintro en w10 ⟨rfl, HG10, H10⟩
                    have BB := hid (B9.out.grown H9.out.rf HG10.out (by omega) (by omega))
                    have HD := H10
                    go_wp2_with fail
                    refine (Must_bad H10.out.rf (by decide) _ _).mono ?_
                    rintro en w11 ⟨rfl, rfl⟩
                    have c0 := cell_at (o := 0) BB.out.res
                    have c1 := cell_at (o := 1) BB.out.res
                    have d0 := cell_at (o := 0) BB.out.ablk
                    have d1 := cell_at (o := 1) BB.out.ablk
                    simp only [List.getElem?_toArray, List.getElem?_cons_succ, List.getElem?_cons_zero] at c0 c1 d0 d1
                    have e0 := free_of (o := 0) BB.out.res
                    have e1 := free_of (o := 1) BB.out.res
                    have RB4 := act_store (k := 3) (v := .slice po pn pc) BB.out.res
                    have m0 := cell_at (o := 0) RB4
                    have m1 := cell_at (o := 1) RB4
                    simp only [List.getElem?_toArray, List.getElem?_cons_succ, List.getElem?_cons_zero] at m0 m1
                    clear RB4
                    go_wp2
                    refine bodyPost_ret (v := .agg #[.int .i64 3, .slice po pn pc]) (by simp [results, Tryz.results83, go_sem, m0, m1]) rfl ?_
                    have R3 := (HD.out.new (B := w.heap.size) (o := 0) (.int .i64 3) hrb hgl (Nat.le_refl _)).new (B := w.heap.size) (o := 1) (.slice po pn pc) hrb hgl (Nat.le_refl _)
                    exact ⟨R3.on, 3, _, rfl, ⟨_, _, _, rfl⟩, Or.inr ⟨Ru.ft y2 3, j + 1, HACT.out, (by simp [Ru.ft]), R3.rf⟩⟩
                  · have h64I : ¬ ((64 : Int) < (pn : Int)) := by rw [HPN.out]; omega
                    have HACT := hid (act_ok HKIND.out (by omega) (HPE.out.trans (if_neg h64)))
                    clear h64
                    go_wp2_with fail
                    refine (HWD2.out _ D7.out).mono ?_
                    rintro en w8 ⟨rfl, HB8, H8⟩
                    obtain ⟨r1, r2, r3, r4, _⟩ := H8.out.rf.cells
                    go_wp2_with fail
                    refine (HWD2.out _ H8.out).mono ?_
                    rintro en w9 ⟨rfl, HB9, H9⟩
                    have B9 := hid ((B7.out.below HB8.out).below HB9.out)
                    have g0 := cell_at (o := 1) B9.out.ablk
                    simp only [List.getElem?_toArray, List.getElem?_cons_succ, List.getElem?_cons_zero] at g0
                    go_wp2_with fail
                    refine (HM51.out _ H9.out).mono ?_
                    rintro en w10 ⟨rfl, HG10, ⟨HQ10, H10⟩ | ⟨HQ10, H10⟩⟩
                    rotate_left
                    · exact absurd H41.out HQ10.out
                    have BB := hid (B9.out.grown H9.out.rf HG10.out (by omega) (by omega))
                    have HD := H10
                    have c0 := cell_at (o := 0) BB.out.res
                    have c1 := cell_at (o := 1) BB.out.res
                    have d0 := cell_at (o := 0) BB.out.ablk
                    have d1 := cell_at (o := 1) BB.out.ablk
                    simp only [List.getElem?_toArray, List.getElem?_cons_succ, List.getElem?_cons_zero] at c0 c1 d0 d1
                    have e0 := free_of (o := 0) BB.out.res
                    have e1 := free_of (o := 1) BB.out.res
                    have RB4 := act_store (k := 3) (v := .slice po pn pc) BB.out.res
                    have m0 := cell_at (o := 0) RB4
                    have m1 := cell_at (o := 1) RB4
                    simp only [List.getElem?_toArray, List.getElem?_cons_succ, List.getElem?_cons_zero] at m0 m1
                    clear RB4
                    go_wp2
                    refine bodyPost_ret (v := .agg #[.int .i64 3, .slice po pn pc]) (by simp [results, Tryz.results83, go_sem, m0, m1]) rfl ?_
                    have R3 := (HD.out.new (B := w.heap.size) (o := 0) (.int .i64 3) hrb hgl (Nat.le_refl _)).new (B := w.heap.size) (o := 1) (.slice po pn pc) hrb hgl (Nat.le_refl _)
                    refine ⟨R3.on, 3, _, rfl, ⟨_, _, _, rfl⟩, Or.inl ⟨_, j + 1 + 1, HACT.out, R3.rf, ?_⟩⟩
                    exact BB.out.ports.kept fun b cs q _ => by
                      have hne : b ≠ w.heap.size := fun e => by
                        rw [e, BB.out.res] at q
                        simp only [Option.some.injEq, Obj.cells.injEq] at q
                        exact absurd q.2.1 (by decide)
                      rw [Below.heap_setCell _ _ _ _ hne, Below.heap_setCell _ _ _ _ hne]
                · have hb41 : (y2.1 == [41]) = false := by simpa using h41
                  have HACT := hid (act_err HKIND.out (by omega) (fin_51 HPR.out h44 h41))
                  have H41 := hid h41
                  clear h44 h41
                  go_wp2_with fail
                  refine (HWD2.out _ D7.out).mono ?_
                  rintro en w8 ⟨rfl, HB8, H8⟩
                  obtain ⟨r1, r2, r3, r4, _⟩ := H8.out.rf.cells
                  go_wp2_with fail
                  refine (HWD2.out _ H8.out).mono ?_
                  rintro en w9 ⟨rfl, HB9, H9⟩
                  have B9 := hid ((B7.out.below HB8.out).below HB9.out)
                  go_wp2_with fail
                  refine (HM51.out _ H9.out).mono ?_
                  rintro en w10 ⟨rfl, HG10, ⟨HQ10, H10⟩ | ⟨HQ10, H10⟩⟩
                  · exact absurd HQ10.out H41.out
                  have BB := hid (B9.out.grown H9.out.rf HG10.out (by omega) (by omega))
                  have HD := H10
                  have c0 := cell_at (o := 0) BB.out.res
                  have c1 := cell_at (o := 1) BB.out.res
                  have d0 := cell_at (o := 0) BB.out.ablk
                  have d1 := cell_at (o := 1) BB.out.ablk
                  simp only [List.getElem?_toArray, List.getElem?_cons_succ, List.getElem?_cons_zero] at c0 c1 d0 d1
                  have e0 := free_of (o := 0) BB.out.res
                  have e1 := free_of (o := 1) BB.out.res
                  have RB4 := act_store (k := 3) (v := .slice po pn pc) BB.out.res
                  have m0 := cell_at (o := 0) RB4
                  have m1 := cell_at (o := 1) RB4
                  simp only [List.getElem?_toArray, List.getElem?_cons_succ, List.getElem?_cons_zero] at m0 m1
                  clear RB4
                  go_wp2
                  refine bodyPost_ret (v := .agg #[.int .i64 3, .slice po pn pc]) (by simp [results, Tryz.results83, go_sem, m0, m1]) rfl ?_
                  have R3 := (HD.out.new (B := w.heap.size) (o := 0) (.int .i64 3) hrb hgl (Nat.le_refl _)).new (B := w.heap.size) (o := 1) (.slice po pn pc) hrb hgl (Nat.le_refl _)
                  exact ⟨R3.on, 3, _, rfl, ⟨_, _, _, rfl⟩, Or.inr ⟨Ru.ft y2 51, j + 1, HACT.out, (by simp [Ru.ft]), R3.rf⟩⟩
            · have BP := hid (((((J.out.bes.below HB3.out).below (W' := w4.drew) (Below.refl _ _).drew).below HB5.out).below HB6.out).ports_set (by omega) HP6.out)
              have DP := hid ((H5.out.below HB6.out).new (B := w1.heap.size) (o := 1) (.slice po pn pc) hrb hgl (by omega))
              have D7 := hid (DP.out.step (j + 1) hlt)
              have B7 := hid (BP.out.grown (W' := (w6.setCell ⟨w1.heap.size, 1, none⟩ (.slice po pn pc)).setCell ⟨rb, 1, none⟩ (.int .i64 ((j + 1 : Nat) : Int))) DP.out.rf (grown_set _ _ _ _) (by omega) (by omega))
              obtain ⟨i1, i2, i3, i4, j1, j2, j3, j4⟩ := DP.out.rf.cells
              push_cast at D7 B7
              have hjI : (j : Int) ≤ 1048576 := by omega
              have hj0 : (0 : Int) ≤ (j : Int) := by omega
              have HPR := hid (J.out.step1 HY.out HN.out)
              obtain ⟨y2, hy2⟩ : ∃ y2, y2 = atW l (j + 1) := ⟨_, rfl⟩
              have HWD2 := hid (fun wr' (q : DOn w rb g l (j + 1) 0 0 0 wr') => q.word)
              have HF3 := hid (fun wr' (q : DOn w rb g l (j + 1) 0 0 0 wr') => q.fail 3)
              have HM51 := hid (fun wr' (q : DOn w rb g l (j + 1) 0 0 0 wr') => q.must [41] (by simp) 51)
              rw [← hy2] at HWD2 HF3 HPR HM51
              have HY2 := hid hy2
              have hyl2 := wv_text y2
              have HLT2 := hid (fun q : y2.1 ≠ [] => atW_lt (l := l) (i := j + 1) hlt (by rw [← hy2]; exact q))
              clear hy2 c6 f6 c5 c3
              by_cases h44 : y2.1 = [44]
              · have hb44 : (y2.1 == [44]) = true := by simpa using h44
                have hlt2 := HLT2.out (by rw [h44]; simp)
                have HPN := hid (fin_more HPR.out h44)
                clear h44
                go_wp2_with fail
                refine (HWD2.out _ D7.out).mono ?_
                rintro en w8 ⟨rfl, HB8, H8⟩
                obtain ⟨r1, r2, r3, r4, t1, t2, t3, t4⟩ := H8.out.rf.cells
                have JN := hid (show DInv w rb g l i 3 w1.heap.size (j + 1 + 1) (acc ++ [y.1]) (.slice po pn pc) (w8.setCell ⟨rb, 1, none⟩ (.int .i64 ((j + 1 + 1 : Nat) : Int))) from by
                  have b8 := (B7.out.below HB8.out).grown (W' := w8.setCell ⟨rb, 1, none⟩ (.int .i64 ((j + 1 + 1 : Nat) : Int))) H8.out.rf (grown_set _ _ _ _) (by omega) (by omega)
                  exact ⟨H8.out.step (j + 1 + 1) hlt2, b8.res, b8.ablk, by rw [Ru.nrm_snoc]; exact b8.ports, by simp only [List.length_append, List.length_singleton]; omega, HPN.out⟩)
                push_cast at r1 JN
                go_wp2
                go_roundw
                case rel => exact ⟨j + 1 + 1, _, _, JN⟩
                case measure =>
                  rw [JN.out.on.posN, J.out.on.posN]; omega
              · have hb44 : (y2.1 == [44]) = false := by simpa using h44
                by_cases h41 : y2.1 = [41]
                · have hb41 : (y2.1 == [41]) = true := by simpa using h41
                  have HPE := hid (fin_end HPR.out h44 h41)
                  rw [Ru.nrm_snoc] at HPE
                  have hpn := HP6.out.len
                  have HPN := hid hpn
                  have H41 := hid h41
                  clear h44 h41 hpn
                  by_cases h64 : 64 < (Ru.put (Ru.nrm acc) y.1).length
                  · have h64I : (64 : Int) < (pn : Int) := by rw [HPN.out]; omega
                    have HACT := hid (act_err HKIND.out (by omega) (HPE.out.trans (if_pos h64)))
                    clear h64
                    go_wp2_with fail
                    refine (HWD2.out _ D7.out).mono ?_
                    rintro en w8 ⟨rfl, HB8, H8⟩
                    obtain ⟨r1, r2, r3, r4, _⟩ := H8.out.rf.cells
                    go_wp2_with fail
                    refine (HWD2.out _ H8.out).mono ?_
                    rintro en w9 ⟨rfl, HB9, H9⟩
                    have B9 := hid ((B7.out.below HB8.out).below HB9.out)
                    have g0 := cell_at (o := 1) B9.out.ablk
                    simp only [List.getElem?_toArray, List.getElem?_cons_succ, List.getElem?_cons_zero] at g0
                    go_wp2_with fail
                    refine (HF3.out _ H9.out).mono ?_
                    rintro en w10 ⟨rfl, HG10, H10⟩
                    have BB := hid (B9.out.grown H9.out.rf HG10.out (by omega) (by omega))
                    have HD := H10
                    go_wp2_with fail
                    refine (Must_bad H10.out.rf (by decide) _ _).mono ?_
                    rintro en w11 ⟨rfl, rfl⟩
                    have c0 := cell_at (o := 0) BB.out.res
                    have c1 := cell_at (o := 1) BB.out.res
                    have d0 := cell_at (o := 0) BB.out.ablk
                    have d1 := cell_at (o := 1) BB.out.ablk
                    simp only [List.getElem?_toArray, List.getElem?_cons_succ, List.getElem?_cons_zero] at c0 c1 d0 d1
                    have e0 := free_of (o := 0) BB.out.res
                    have e1 := free_of (o := 1) BB.out.res
                    have RB4 := act_store (k := 3) (v := .slice po pn pc) BB.out.res
                    have m0 := cell_at (o := 0) RB4
                    have m1 := cell_at (o := 1) RB4
                    simp only [List.getElem?_toArray, List.getElem?_cons_succ, List.getElem?_cons_zero] at m0 m1
                    clear RB4
                    go_wp2
                    refine bodyPost_ret (v := .agg #[.int .i64 3, .slice po pn pc]) (by simp [results, Tryz.results83, go_sem, m0, m1]) rfl ?_
                    have R3 := (HD.out.new (B := w.heap.size) (o := 0) (.int .i64 3) hrb hgl (Nat.le_refl _)).new (B := w.heap.size) (o := 1) (.slice po pn pc) hrb hgl (Nat.le_refl _)
                    exact ⟨R3.on, 3, _, rfl, ⟨_, _, _, rfl⟩, Or.inr ⟨Ru.ft y2 3, j + 1, HACT.out, (by simp [Ru.ft]), R3.rf⟩⟩
                  · have h64I : ¬ ((64 : Int) < (pn : Int)) := by rw [HPN.out]; omega
                    have HACT := hid (act_ok HKIND.out (by omega) (HPE.out.trans (if_neg h64)))
                    clear h64
                    go_wp2_with fail
                    refine (HWD2.out _ D7.out).mono ?_
                    rintro en w8 ⟨rfl, HB8, H8⟩
                    obtain ⟨r1, r2, r3, r4, _⟩ := H8.out.rf.cells
                    go_wp2_with fail
                    refine (HWD2.out _ H8.out).mono ?_
                    rintro en w9 ⟨rfl, HB9, H9⟩
                    have B9 := hid ((B7.out.below HB8.out).below HB9.out)
                    have g0 := cell_at (o := 1) B9.out.ablk
                    simp only [List.getElem?_toArray, List.getElem?_cons_succ, List.getElem?_cons_zero] at g0
                    go_wp2_with fail
                    refine (HM51.out _ H9.out).mono ?_
                    rintro en w10 ⟨rfl, HG10, ⟨HQ10, H10⟩ | ⟨HQ10, H10⟩⟩
                    rotate_left
                    · exact absurd H41.out HQ10.out
                    have BB := hid (B9.out.grown H9.out.rf HG10.out (by omega) (by omega))
                    have HD := H10
                    have c0 := cell_at (o := 0) BB.out.res
                    have c1 := cell_at (o := 1) BB.out.res
                    have d0 := cell_at (o := 0) BB.out.ablk
                    have d1 := cell_at (o := 1) BB.out.ablk
                    simp only [List.getElem?_toArray, List.getElem?_cons_succ, List.getElem?_cons_zero] at c0 c1 d0 d1
                    have e0 := free_of (o := 0) BB.out.res
                    have e1 := free_of (o := 1) BB.out.res
                    have RB4 := act_store (k := 3) (v := .slice po pn pc) BB.out.res
                    have m0 := cell_at (o := 0) RB4
                    have m1 := cell_at (o := 1) RB4
                    simp only [List.getElem?_toArray, List.getElem?_cons_succ, List.getElem?_cons_zero] at m0 m1
                    clear RB4
                    go_wp2
                    refine bodyPost_ret (v := .agg #[.int .i64 3, .slice po pn pc]) (by simp [results, Tryz.results83, go_sem, m0, m1]) rfl ?_
                    have R3 := (HD.out.new (B := w.heap.size) (o := 0) (.int .i64 3) hrb hgl (Nat.le_refl _)).new (B := w.heap.size) (o := 1) (.slice po pn pc) hrb hgl (Nat.le_refl _)
                    refine ⟨R3.on, 3, _, rfl, ⟨_, _, _, rfl⟩, Or.inl ⟨_, j + 1 + 1, HACT.out, R3.rf, ?_⟩⟩
                    exact BB.out.ports.kept fun b cs q _ => by
                      have hne : b ≠ w.heap.size := fun e => by
                        rw [e, BB.out.res] at q
                        simp only [Option.some.injEq, Obj.cells.injEq] at q
                        exact absurd q.2.1 (by decide)
                      rw [Below.heap_setCell _ _ _ _ hne, Below.heap_setCell _ _ _ _ hne]
                · have hb41 : (y2.1 == [41]) = false := by simpa using h41
                  have HACT := hid (act_err HKIND.out (by omega) (fin_51 HPR.out h44 h41))
                  have H41 := hid h41
                  clear h44 h41
                  go_wp2_with fail
                  refine (HWD2.out _ D7.out).mono ?_
                  rintro en w8 ⟨rfl, HB8, H8⟩
                  obtain ⟨r1, r2, r3, r4, _⟩ := H8.out.rf.cells
                  go_wp2_with fail
                  refine (HWD2.out _ H8.out).mono ?_
                  rintro en w9 ⟨rfl, HB9, H9⟩
                  have B9 := hid ((B7.out.below HB8.out).below HB9.out)
                  go_wp2_with fail
                  refine (HM51.out _ H9.out).mono ?_
                  rintro en w10 ⟨rfl, HG10, ⟨HQ10, H10⟩ | ⟨HQ10, H10⟩⟩
                  · exact absurd HQ10.out H41.out
                  have BB := hid (B9.out.grown H9.out.rf HG10.out (by omega) (by omega))
                  have HD := H10
                  have c0 := cell_at (o := 0) BB.out.res
                  have c1 := cell_at (o := 1) BB.out.res
                  have d0 := cell_at (o := 0) BB.out.ablk
                  have d1 := cell_at (o := 1) BB.out.ablk
                  simp only [List.getElem?_toArray, List.getElem?_cons_succ, List.getElem?_cons_zero] at c0 c1 d0 d1
                  have e0 := free_of (o := 0) BB.out.res
                  have e1 := free_of (o := 1) BB.out.res
                  have RB4 := act_store (k := 3) (v := .slice po pn pc) BB.out.res
                  have m0 := cell_at (o := 0) RB4
                  have m1 := cell_at (o := 1) RB4
                  simp only [List.getElem?_toArray, List.getElem?_cons_succ, List.getElem?_cons_zero] at m0 m1
                  clear RB4
                  go_wp2
                  refine bodyPost_ret (v := .agg #[.int .i64 3, .slice po pn pc]) (by simp [results, Tryz.results83, go_sem, m0, m1]) rfl ?_
                  have R3 := (HD.out.new (B := w.heap.size) (o := 0) (.int .i64 3) hrb hgl (Nat.le_refl _)).new (B := w.heap.size) (o := 1) (.slice po pn pc) hrb hgl (Nat.le_refl _)
                  exact ⟨R3.on, 3, _, rfl, ⟨_, _, _, rfl⟩, Or.inr ⟨Ru.ft y2 51, j + 1, HACT.out, (by simp [Ru.ft]), R3.rf⟩⟩
      · by_cases h4 : x.1 = [97, 110, 121]
        · have b1 : (x.1 == [100, 114, 111, 112]) = false := by simpa using h1
          have b2 : (x.1 == [100, 101, 108, 105, 118, 101, 114]) = false := by simpa using h2
          have b3 : (x.1 == [97, 108, 108]) = false := by simpa using h3
          have b4 : (x.1 == [97, 110, 121]) = true := by simpa using h4
          have hlt := HLT.out (by rw [h4]; simp)
          have HKIND := hid (act_four HX.out h4)
          have hiI : (i : Int) ≤ 1048576 := by omega
          have hi0 : (0 : Int) ≤ (i : Int) := by omega
          clear h1 h2 h3 h4
          go_enter Tryz.func83, Tryz.ntmps83
          go_wp2_with fail
          refine HW.out.mono ?_
          rintro en w1 ⟨rfl, HB1, H1⟩
          obtain ⟨k1, k2, k3, k4, f1, f2, f3, f4⟩ := H1.out.rf.cells
          have RB1 := hid (below_block HB1.out (new_0 w (aob 0 (.slice none 0 0))) (by simp))
          have ka1 := alloc_cell k1 H1.out.rf.lt
          have fa1 : ∀ ob, (w1.alloc ob).frozen? ⟨rb, 1, none⟩ = false := by
            obtain ⟨cap, hc⟩ := H1.out.rf.blk
            exact alloc_free hc
          have hsz1 : w.heap.size < w1.heap.size := by have := HB1.out.size; simp at this; omega
          have R2 := hid ((H1.out.alloc (aob 4 (.slice none 0 0))).step (i + 1) hlt)
          have RB2 := hid (block_other (o := 1) (.int .i64 ((i + 1 : Nat) : Int)) (new_old _ (aob 4 (.slice none 0 0)) RB1.out) (g := rb) (by omega))
          have AB2 := hid (block_other (o := 1) (.int .i64 ((i + 1 : Nat) : Int)) (new_0 w1 (aob 4 (.slice none 0 0))) (g := rb) (by omega))
          push_cast at R2 RB2 AB2
          go_wp2_with fail
          refine (R2.out.must [40] (by simp) 51).mono ?_
          rintro en w2 ⟨rfl, HG2, ⟨HQ2, H2⟩ | ⟨HQ2, H2⟩⟩
          rotate_left
          · have RB3 := block_grow RB2.out HG2.out (by omega)
            have AB3 := block_grow AB2.out HG2.out (by omega)
            obtain ⟨q1, q2, q3, q4, _⟩ := H2.out.rf.cells
            have c0 := cell_at (o := 0) RB3
            have c1 := cell_at (o := 1) RB3
            have d0 := cell_at (o := 0) AB3
            have d1 := cell_at (o := 1) AB3
            simp only [List.getElem?_toArray, List.getElem?_cons_succ, List.getElem?_cons_zero] at c0 c1 d0 d1
            have e0 := free_of (o := 0) RB3
            have e1 := free_of (o := 1) RB3
            have RB4 := act_store (k := 4) (v := .slice none 0 0) RB3
            have m0 := cell_at (o := 0) RB4
            have m1 := cell_at (o := 1) RB4
            simp only [List.getElem?_toArray, List.getElem?_cons_succ, List.getElem?_cons_zero] at m0 m1
            have HACT := hid (act_err HKIND.out (by omega) (show Ru.prt (Ru.endW l) (l.drop (i + 1)) = .error (Ru.ft (atW l (i + 1)) 51) from if_pos HQ2.out))
            clear RB3 AB3 RB4
            go_wp2_with fail
            refine wp_loop_rounds 1 ?_
            rw [rounds_succ]
            go_wp2_with fail
            refine (Must_bad H2.out.rf (by decide) _ _).mono ?_
            rintro en w3 ⟨rfl, rfl⟩
            go_wp2
            refine bodyPost_ret (v := .agg #[.int .i64 4, .slice none 0 0]) (by simp [results, Tryz.results83, go_sem, m0, m1]) rfl ?_
            have R3 := (H2.out.new (B := w.heap.size) (o := 0) (.int .i64 4) hrb hgl (Nat.le_refl _)).new (B := w.heap.size) (o := 1) (.slice none 0 0) hrb hgl (Nat.le_refl _)
            exact ⟨R3.on, 4, _, rfl, ⟨_, _, _, rfl⟩, Or.inr ⟨Ru.ft (atW l (i + 1)) 51, i + 1, HACT.out, (by simp [Ru.ft]), R3.rf⟩⟩
          have JS := hid (DInv.start (k := 4) HQ2.out H2.out (block_grow RB2.out HG2.out (by omega)) (block_grow AB2.out HG2.out (by omega)))
          clear k1 k2 k3 k4 f1 f2 f3 f4 ka1 fa1
          go_wp2_with fail
          go_loopw [] (fun wr => ∃ j acc v, Hid (DInv w rb g l i 4 w1.heap.size j acc v wr)) (fun wr => l.length - posN wr rb)
          case atStart => exact ⟨_, _, _, JS⟩
          case round =>
            obtain ⟨j, acc, v, J⟩ := hrel
            obtain ⟨q1, q2, q3, q4, p1, p2, p3, p4⟩ := J.out.on.rf.cells
            obtain ⟨y, hy⟩ : ∃ y, y = atW l j := ⟨_, rfl⟩
            have hjl := J.out.on.rf.le
            have hfew := J.out.few
            have HY := hid hy
            have HWD := hid (fun wr' (q : DOn w rb g l j 0 0 0 wr') => q.word)
            have HF31 := hid (fun wr' (q : DOn w rb g l j 0 0 0 wr') => q.fail 31)
            have hys : y.1.length ≤ 1048576 := by rw [hy]; exact atW_short J.out.on.rf.ok j
            rw [← hy] at HWD HF31
            have hyl := wv_text y
            have HNM := hid (fun w' => uRName y.1 w' hys)
            clear hy
            rcases bool_two (Wo.nameB y.1) with hn | hn
            · rw [hn] at HNM
              have HP := hid (J.out.fault31 HY.out hn)
              have HACT := hid (act_err HKIND.out (by omega) HP.out)
              obtain ⟨ao, vn, vc, rfl⟩ := J.out.ports.form
              clear hn
              go_wp2_with fail
              refine (HWD.out _ J.out.on).mono ?_
              rintro en w3 ⟨rfl, HB3, H3⟩
              go_wp2_with fail
              refine (HNM.out _).mono ?_
              rintro en w4 ⟨rfl, rfl⟩
              go_wp2_with fail
              refine (HF31.out _ H3.out).mono ?_
              rintro en w5 ⟨rfl, HG5, H5⟩
              have RB3 := block_grow (below_block HB3.out J.out.res (lt_of_block J.out.res)) HG5.out (by omega)
              have AB3 := block_grow (below_block HB3.out J.out.ablk (lt_of_block J.out.ablk)) HG5.out (by omega)
              have c0 := cell_at (o := 0) RB3
              have c1 := cell_at (o := 1) RB3
              have d0 := cell_at (o := 0) AB3
              have d1 := cell_at (o := 1) AB3
              simp only [List.getElem?_toArray, List.getElem?_cons_succ, List.getElem?_cons_zero] at c0 c1 d0 d1
              have e0 := free_of (o := 0) RB3
              have e1 := free_of (o := 1) RB3
              have RB4 := act_store (k := 4) (v := .slice ao vn vc) RB3
              have m0 := cell_at (o := 0) RB4
              have m1 := cell_at (o := 1) RB4
              simp only [List.getElem?_toArray, List.getElem?_cons_succ, List.getElem?_cons_zero] at m0 m1
              clear RB3 AB3 RB4
              go_wp2
              refine bodyPost_ret (v := .agg #[.int .i64 4, .slice ao vn vc]) (by simp [results, Tryz.results83, go_sem, m0, m1]) rfl ?_
              have R3 := (H5.out.new (B := w.heap.size) (o := 0) (.int .i64 4) hrb hgl (Nat.le_refl _)).new (B := w.heap.size) (o := 1) (.slice ao vn vc) hrb hgl (Nat.le_refl _)
              exact ⟨R3.on, 4, _, rfl, ⟨_, _, _, rfl⟩, Or.inr ⟨Ru.ft y 31, j, HACT.out, (by simp [Ru.ft]), R3.rf⟩⟩
            · rw [hn] at HNM
              have HN := hid hn
              have hlt : j < l.length := atW_lt hjl (by rw [← HY.out]; intro q; rw [q] at hn; exact absurd hn (by decide))
              clear hn
              obtain ⟨ao, vn, vc, rfl⟩ := J.out.ports.form
              go_wp2_with fail
              refine (HWD.out _ J.out.on).mono ?_
              rintro en w3 ⟨rfl, HB3, H3⟩
              go_wp2_with fail
              refine (HNM.out _).mono ?_
              rintro en w4 ⟨rfl, rfl⟩
              have A3 := below_block HB3.out J.out.ablk (lt_of_block J.out.ablk)
              have c3 := cell_at (o := 1) A3
              simp only [List.getElem?_toArray, List.getElem?_cons_succ, List.getElem?_cons_zero] at c3
              have HA3 := hid A3
              have HR3 := hid (below_block HB3.out J.out.res (lt_of_block J.out.res))
              have HP3 := hid (J.out.ports.kept (w' := w4) fun b cs hb _ => HB3.out.block b (lt_of_block hb))
              have hnl : (Ru.nrm acc).length ≤ 1048576 := Nat.le_trans (nrm_le acc) (by omega)
              clear A3
              go_wp2_with fail
              go_region_with (first | (go_at_call 118; refine (put_ports (B := 0) (zs := Ru.nrm acc) ?_ y.1 hnl).mono ?_; exact HP5.out; rintro en w6 ⟨v', rfl, HP6, HB6⟩; have c6 := cell_at (o := 1) (below_block HB6.out HA5.out (lt_of_block HA5.out)); have f6 := free_of (o := 1) (below_block HB6.out HA5.out (lt_of_block HA5.out)); obtain ⟨po, pn, pc, rfl⟩ := HP6.out.form; simp only [List.getElem?_toArray, List.getElem?_cons_succ, List.getElem?_cons_zero] at c6) | (go_at_call 82; refine (HWD.out _ ?_).mono ?_; exact H3.out.below (Below.refl _ _).drew; rintro en w5 ⟨rfl, HB5, H5⟩; have HA5 := hid (below_block HB5.out (w := w4.drew) HA3.out (lt_of_block HA3.out)); have c5 := cell_at (o := 1) HA5.out; have HR5 := hid (below_block HB5.out (w := w4.drew) HR3.out (lt_of_block HR3.out)); have HP5 := hid (HP3.out.kept (w' := w5) fun b cs hb _ => HB5.out.block b (lt_of_block hb)); simp only [List.getElem?_toArray, List.getElem?_cons_succ, List.getElem?_cons_zero] at c5))
              · have BP := hid (((((J.out.bes.below HB3.out).below (W' := w4.drew) (Below.refl _ _).drew).below HB5.out).below HB6.out).ports_set (by omega) HP6.out)
                have DP := hid ((H5.out.below HB6.out).new (B := w1.heap.size) (o := 1) (.slice po pn pc) hrb hgl (by omega))
                have D7 := hid (DP.out.step (j + 1) hlt)
                have B7 := hid (BP.out.grown (W' := (w6.setCell ⟨w1.heap.size, 1, none⟩ (.slice po pn pc)).setCell ⟨rb, 1, none⟩ (.int .i64 ((j + 1 : Nat) : Int))) DP.out.rf (grown_set _ _ _ _) (by omega) (by omega))
                obtain ⟨i1, i2, i3, i4, j1, j2, j3, j4⟩ := DP.out.rf.cells
                push_cast at D7 B7
                have hjI : (j : Int) ≤ 1048576 := by omega
                have hj0 : (0 : Int) ≤ (j : Int) := by omega
                have HPR := hid (J.out.step1 HY.out HN.out)
                obtain ⟨y2, hy2⟩ : ∃ y2, y2 = atW l (j + 1) := ⟨_, rfl⟩
                have HWD2 := hid (fun wr' (q : DOn w rb g l (j + 1) 0 0 0 wr') => q.word)
                have HF3 := hid (fun wr' (q : DOn w rb g l (j + 1) 0 0 0 wr') => q.fail 3)
                have HM51 := hid (fun wr' (q : DOn w rb g l (j + 1) 0 0 0 wr') => q.must [41] (by simp) 51)
                rw [← hy2] at HWD2 HF3 HPR HM51
                have HY2 := hid hy2
                have hyl2 := wv_text y2
                have HLT2 := hid (fun q : y2.1 ≠ [] => atW_lt (l := l) (i := j + 1) hlt (by rw [← hy2]; exact q))
                clear hy2 c6 f6 c5 c3
                by_cases h44 : y2.1 = [44]
                · have hb44 : (y2.1 == [44]) = true := by simpa using h44
                  have hlt2 := HLT2.out (by rw [h44]; simp)
                  have HPN := hid (fin_more HPR.out h44)
                  clear h44
                  go_wp2_with fail
                  refine (HWD2.out _ D7.out).mono ?_
                  rintro en w8 ⟨rfl, HB8, H8⟩
                  obtain ⟨r1, r2, r3, r4, t1, t2, t3, t4⟩ := H8.out.rf.cells
                  have JN := hid (show DInv w rb g l i 4 w1.heap.size (j + 1 + 1) (acc ++ [y.1]) (.slice po pn pc) (w8.setCell ⟨rb, 1, none⟩ (.int .i64 ((j + 1 + 1 : Nat) : Int))) from by
                    have b8 := (B7.out.below HB8.out).grown (W' := w8.setCell ⟨rb, 1, none⟩ (.int .i64 ((j + 1 + 1 : Nat) : Int))) H8.out.rf (grown_set _ _ _ _) (by omega) (by omega)
                    exact ⟨H8.out.step (j + 1 + 1) hlt2, b8.res, b8.ablk, by rw [Ru.nrm_snoc]; exact b8.ports, by simp only [List.length_append, List.length_singleton]; omega, HPN.out⟩)
                  push_cast at r1 JN
                  go_wp2
                  go_roundw
                  case rel => exact ⟨j + 1 + 1, _, _, JN⟩
                  case measure =>
                    rw [JN.out.on.posN, J.out.on.posN]; omega
                · have hb44 : (y2.1 == [44]) = false := by simpa using h44
                  by_cases h41 : y2.1 = [41]
                  · have hb41 : (y2.1 == [41]) = true := by simpa using h41
                    have HPE := hid (fin_end HPR.out h44 h41)
                    rw [Ru.nrm_snoc] at HPE
                    have hpn := HP6.out.len
                    have HPN := hid hpn
                    have H41 := hid h41
                    clear h44 h41 hpn
                    by_cases h64 : 64 < (Ru.put (Ru.nrm acc) y.1).length
                    · have h64I : (64 : Int) < (pn : Int) := by rw [HPN.out]; omega
                      have HACT := hid (act_err HKIND.out (by omega) (HPE.out.trans (if_pos h64)))
                      clear h64
                      go_wp2_with fail
                      refine (HWD2.out _ D7.out).mono ?_
                      rintro en w8 ⟨rfl, HB8, H8⟩
                      obtain ⟨r1, r2, r3, r4, _⟩ := H8.out.rf.cells
                      go_wp2_with fail
                      refine (HWD2.out _ H8.out).mono ?_
                      rintro en w9 ⟨rfl, HB9, H9⟩
                      have B9 := hid ((B7.out.below HB8.out).below HB9.out)
                      have g0 := cell_at (o := 1) B9.out.ablk
                      simp only [List.getElem?_toArray, List.getElem?_cons_succ, List.getElem?_cons_zero] at g0
                      go_wp2_with fail
                      refine (HF3.out _ H9.out).mono ?_
                      rintro en w10 ⟨rfl, HG10, H10⟩
                      have BB := hid (B9.out.grown H9.out.rf HG10.out (by omega) (by omega))
                      have HD := H10
                      go_wp2_with fail
                      refine (Must_bad H10.out.rf (by decide) _ _).mono ?_
                      rintro en w11 ⟨rfl, rfl⟩
                      have c0 := cell_at (o := 0) BB.out.res
                      have c1 := cell_at (o := 1) BB.out.res
                      have d0 := cell_at (o := 0) BB.out.ablk
                      have d1 := cell_at (o := 1) BB.out.ablk
                      simp only [List.getElem?_toArray, List.getElem?_cons_succ, List.getElem?_cons_zero] at c0 c1 d0 d1
                      have e0 := free_of (o := 0) BB.out.res
                      have e1 := free_of (o := 1) BB.out.res
                      have RB4 := act_store (k := 4) (v := .slice po pn pc) BB.out.res
                      have m0 := cell_at (o := 0) RB4
                      have m1 := cell_at (o := 1) RB4
                      simp only [List.getElem?_toArray, List.getElem?_cons_succ, List.getElem?_cons_zero] at m0 m1
                      clear RB4
                      go_wp2
                      refine bodyPost_ret (v := .agg #[.int .i64 4, .slice po pn pc]) (by simp [results, Tryz.results83, go_sem, m0, m1]) rfl ?_
                      have R3 := (HD.out.new (B := w.heap.size) (o := 0) (.int .i64 4) hrb hgl (Nat.le_refl _)).new (B := w.heap.size) (o := 1) (.slice po pn pc) hrb hgl (Nat.le_refl _)
                      exact ⟨R3.on, 4, _, rfl, ⟨_, _, _, rfl⟩, Or.inr ⟨Ru.ft y2 3, j + 1, HACT.out, (by simp [Ru.ft]), R3.rf⟩⟩
                    · have h64I : ¬ ((64 : Int) < (pn : Int)) := by rw [HPN.out]; omega
                      have HACT := hid (act_ok HKIND.out (by omega) (HPE.out.trans (if_neg h64)))
                      clear h64
                      go_wp2_with fail
                      refine (HWD2.out _ D7.out).mono ?_
                      rintro en w8 ⟨rfl, HB8, H8⟩
                      obtain ⟨r1, r2, r3, r4, _⟩ := H8.out.rf.cells
                      go_wp2_with fail
                      refine (HWD2.out _ H8.out).mono ?_
                      rintro en w9 ⟨rfl, HB9, H9⟩
                      have B9 := hid ((B7.out.below HB8.out).below HB9.out)
                      have g0 := cell_at (o := 1) B9.out.ablk
                      simp only [List.getElem?_toArray, List.getElem?_cons_succ, List.getElem?_cons_zero] at g0
                      go_wp2_with fail
                      refine (HM51.out _ H9.out).mono ?_
                      rintro en w10 ⟨rfl, HG10, ⟨HQ10, H10⟩ | ⟨HQ10, H10⟩⟩
                      rotate_left
                      · exact absurd H41.out HQ10.out
                      have BB := hid (B9.out.grown H9.out.rf HG10.out (by omega) (by omega))
                      have HD := H10
                      have c0 := cell_at (o := 0) BB.out.res
                      have c1 := cell_at (o := 1) BB.out.res
                      have d0 := cell_at (o := 0) BB.out.ablk
                      have d1 := cell_at (o := 1) BB.out.ablk
                      simp only [List.getElem?_toArray, List.getElem?_cons_succ, List.getElem?_cons_zero] at c0 c1 d0 d1
                      have e0 := free_of (o := 0) BB.out.res
                      have e1 := free_of (o := 1) BB.out.res
                      have RB4 := act_store (k := 4) (v := .slice po pn pc) BB.out.res
                      have m0 := cell_at (o := 0) RB4
                      have m1 := cell_at (o := 1) RB4
                      simp only [List.getElem?_toArray, List.getElem?_cons_succ, List.getElem?_cons_zero] at m0 m1
                      clear RB4
                      go_wp2
                      refine bodyPost_ret (v := .agg #[.int .i64 4, .slice po pn pc]) (by simp [results, Tryz.results83, go_sem, m0, m1]) rfl ?_
                      have R3 := (HD.out.new (B := w.heap.size) (o := 0) (.int .i64 4) hrb hgl (Nat.le_refl _)).new (B := w.heap.size) (o := 1) (.slice po pn pc) hrb hgl (Nat.le_refl _)
                      refine ⟨R3.on, 4, _, rfl, ⟨_, _, _, rfl⟩, Or.inl ⟨_, j + 1 + 1, HACT.out, R3.rf, ?_⟩⟩
                      exact BB.out.ports.kept fun b cs q _ => by
                        have hne : b ≠ w.heap.size := fun e => by
                          rw [e, BB.out.res] at q
                          simp only [Option.some.injEq, Obj.cells.injEq] at q
                          exact absurd q.2.1 (by decide)
                        rw [Below.heap_setCell _ _ _ _ hne, Below.heap_setCell _ _ _ _ hne]
                  · have hb41 : (y2.1 == [41]) = false := by simpa using h41
                    have HACT := hid (act_err HKIND.out (by omega) (fin_51 HPR.out h44 h41))
                    have H41 := hid h41
                    clear h44 h41
                    go_wp2_with fail
                    refine (HWD2.out _ D7.out).mono ?_
                    rintro en w8 ⟨rfl, HB8, H8⟩
                    obtain ⟨r1, r2, r3, r4, _⟩ := H8.out.rf.cells
                    go_wp2_with fail
                    refine (HWD2.out _ H8.out).mono ?_
                    rintro en w9 ⟨rfl, HB9, H9⟩
                    have B9 := hid ((B7.out.below HB8.out).below HB9.out)
                    go_wp2_with fail
                    refine (HM51.out _ H9.out).mono ?_
                    rintro en w10 ⟨rfl, HG10, ⟨HQ10, H10⟩ | ⟨HQ10, H10⟩⟩
                    · exact absurd HQ10.out H41.out
                    have BB := hid (B9.out.grown H9.out.rf HG10.out (by omega) (by omega))
                    have HD := H10
                    have c0 := cell_at (o := 0) BB.out.res
                    have c1 := cell_at (o := 1) BB.out.res
                    have d0 := cell_at (o := 0) BB.out.ablk
                    have d1 := cell_at (o := 1) BB.out.ablk
                    simp only [List.getElem?_toArray, List.getElem?_cons_succ, List.getElem?_cons_zero] at c0 c1 d0 d1
                    have e0 := free_of (o := 0) BB.out.res
                    have e1 := free_of (o := 1) BB.out.res
                    have RB4 := act_store (k := 4) (v := .slice po pn pc) BB.out.res
                    have m0 := cell_at (o := 0) RB4
                    have m1 := cell_at (o := 1) RB4
                    simp only [List.getElem?_toArray, List.getElem?_cons_succ, List.getElem?_cons_zero] at m0 m1
                    clear RB4
                    go_wp2
                    refine bodyPost_ret (v := .agg #[.int .i64 4, .slice po pn pc]) (by simp [results, Tryz.results83, go_sem, m0, m1]) rfl ?_
                    have R3 := (HD.out.new (B := w.heap.size) (o := 0) (.int .i64 4) hrb hgl (Nat.le_refl _)).new (B := w.heap.size) (o := 1) (.slice po pn pc) hrb hgl (Nat.le_refl _)
                    exact ⟨R3.on, 4, _, rfl, ⟨_, _, _, rfl⟩, Or.inr ⟨Ru.ft y2 51, j + 1, HACT.out, (by simp [Ru.ft]), R3.rf⟩⟩
              · have BP := hid (((((J.out.bes.below HB3.out).below (W' := w4.drew) (Below.refl _ _).drew).below HB5.out).below HB6.out).ports_set (by omega) HP6.out)
                have DP := hid ((H5.out.below HB6.out).new (B := w1.heap.size) (o := 1) (.slice po pn pc) hrb hgl (by omega))
                have D7 := hid (DP.out.step (j + 1) hlt)
                have B7 := hid (BP.out.grown (W' := (w6.setCell ⟨w1.heap.size, 1, none⟩ (.slice po pn pc)).setCell ⟨rb, 1, none⟩ (.int .i64 ((j + 1 : Nat) : Int))) DP.out.rf (grown_set _ _ _ _) (by omega) (by omega))
                obtain ⟨i1, i2, i3, i4, j1, j2, j3, j4⟩ := DP.out.rf.cells
                push_cast at D7 B7
                have hjI : (j : Int) ≤ 1048576 := by omega
                have hj0 : (0 : Int) ≤ (j : Int) := by omega
                have HPR := hid (J.out.step1 HY.out HN.out)
                obtain ⟨y2, hy2⟩ : ∃ y2, y2 = atW l (j + 1) := ⟨_, rfl⟩
                have HWD2 := hid (fun wr' (q : DOn w rb g l (j + 1) 0 0 0 wr') => q.word)
                have HF3 := hid (fun wr' (q : DOn w rb g l (j + 1) 0 0 0 wr') => q.fail 3)
                have HM51 := hid (fun wr' (q : DOn w rb g l (j + 1) 0 0 0 wr') => q.must [41] (by simp) 51)
                rw [← hy2] at HWD2 HF3 HPR HM51
                have HY2 := hid hy2
                have hyl2 := wv_text y2
                have HLT2 := hid (fun q : y2.1 ≠ [] => atW_lt (l := l) (i := j + 1) hlt (by rw [← hy2]; exact q))
                clear hy2 c6 f6 c5 c3
                by_cases h44 : y2.1 = [44]
                · have hb44 : (y2.1 == [44]) = true := by simpa using h44
                  have hlt2 := HLT2.out (by rw [h44]; simp)
                  have HPN := hid (fin_more HPR.out h44)
                  clear h44
                  go_wp2_with fail
                  refine (HWD2.out _ D7.out).mono ?_
                  rintro en w8 ⟨rfl, HB8, H8⟩
                  obtain ⟨r1, r2, r3, r4, t1, t2, t3, t4⟩ := H8.out.rf.cells
                  have JN := hid (show DInv w rb g l i 4 w1.heap.size (j + 1 + 1) (acc ++ [y.1]) (.slice po pn pc) (w8.setCell ⟨rb, 1, none⟩ (.int .i64 ((j + 1 + 1 : Nat) : Int))) from by
                    have b8 := (B7.out.below HB8.out).grown (W' := w8.setCell ⟨rb, 1, none⟩ (.int .i64 ((j + 1 + 1 : Nat) : Int))) H8.out.rf (grown_set _ _ _ _) (by omega) (by omega)
                    exact ⟨H8.out.step (j + 1 + 1) hlt2, b8.res, b8.ablk, by rw [Ru.nrm_snoc]; exact b8.ports, by simp only [List.length_append, List.length_singleton]; omega, HPN.out⟩)
                  push_cast at r1 JN
                  go_wp2
                  go_roundw
                  case rel => exact ⟨j + 1 + 1, _, _, JN⟩
                  case measure =>
                    rw [JN.out.on.posN, J.out.on.posN]; omega
                · have hb44 : (y2.1 == [44]) = false := by simpa using h44
                  by_cases h41 : y2.1 = [41]
                  · have hb41 : (y2.1 == [41]) = true := by simpa using h41
                    have HPE := hid (fin_end HPR.out h44 h41)
                    rw [Ru.nrm_snoc] at HPE
                    have hpn := HP6.out.len
                    have HPN := hid hpn
                    have H41 := hid h41
                    clear h44 h41 hpn
                    by_cases h64 : 64 < (Ru.put (Ru.nrm acc) y.1).length
                    · have h64I : (64 : Int) < (pn : Int) := by rw [HPN.out]; omega
                      have HACT := hid (act_err HKIND.out (by omega) (HPE.out.trans (if_pos h64)))
                      clear h64
                      go_wp2_with fail
                      refine (HWD2.out _ D7.out).mono ?_
                      rintro en w8 ⟨rfl, HB8, H8⟩
                      obtain ⟨r1, r2, r3, r4, _⟩ := H8.out.rf.cells
                      go_wp2_with fail
                      refine (HWD2.out _ H8.out).mono ?_
                      rintro en w9 ⟨rfl, HB9, H9⟩
                      have B9 := hid ((B7.out.below HB8.out).below HB9.out)
                      have g0 := cell_at (o := 1) B9.out.ablk
                      simp only [List.getElem?_toArray, List.getElem?_cons_succ, List.getElem?_cons_zero] at g0
                      go_wp2_with fail
                      refine (HF3.out _ H9.out).mono ?_
                      rintro en w10 ⟨rfl, HG10, H10⟩
                      have BB := hid (B9.out.grown H9.out.rf HG10.out (by omega) (by omega))
                      have HD := H10
                      go_wp2_with fail
                      refine (Must_bad H10.out.rf (by decide) _ _).mono ?_
                      rintro en w11 ⟨rfl, rfl⟩
                      have c0 := cell_at (o := 0) BB.out.res
                      have c1 := cell_at (o := 1) BB.out.res
                      have d0 := cell_at (o := 0) BB.out.ablk
                      have d1 := cell_at (o := 1) BB.out.ablk
                      simp only [List.getElem?_toArray, List.getElem?_cons_succ, List.getElem?_cons_zero] at c0 c1 d0 d1
                      have e0 := free_of (o := 0) BB.out.res
                      have e1 := free_of (o := 1) BB.out.res
                      have RB4 := act_store (k := 4) (v := .slice po pn pc) BB.out.res
                      have m0 := cell_at (o := 0) RB4
                      have m1 := cell_at (o := 1) RB4
                      simp only [List.getElem?_toArray, List.getElem?_cons_succ, List.getElem?_cons_zero] at m0 m1
                      clear RB4
                      go_wp2
                      refine bodyPost_ret (v := .agg #[.int .i64 4, .slice po pn pc]) (by simp [results, Tryz.results83, go_sem, m0, m1]) rfl ?_
                      have R3 := (HD.out.new (B := w.heap.size) (o := 0) (.int .i64 4) hrb hgl (Nat.le_refl _)).new (B := w.heap.size) (o := 1) (.slice po pn pc) hrb hgl (Nat.le_refl _)
                      exact ⟨R3.on, 4, _, rfl, ⟨_, _, _, rfl⟩, Or.inr ⟨Ru.ft y2 3, j + 1, HACT.out, (by simp [Ru.ft]), R3.rf⟩⟩
                    · have h64I : ¬ ((64 : Int) < (pn : Int)) := by rw [HPN.out]; omega
                      have HACT := hid (act_ok HKIND.out (by omega) (HPE.out.trans (if_neg h64)))
                      clear h64
                      go_wp2_with fail
                      refine (HWD2.out _ D7.out).mono ?_
                      rintro en w8 ⟨rfl, HB8, H8⟩
                      obtain ⟨r1, r2, r3, r4, _⟩ := H8.out.rf.cells
                      go_wp2_with fail
                      refine (HWD2.out _ H8.out).mono ?_
                      rintro en w9 ⟨rfl, HB9, H9⟩
                      have B9 := hid ((B7.out.below HB8.out).below HB9.out)
                      have g0 := cell_at (o := 1) B9.out.ablk
                      simp only [List.getElem?_toArray, List.getElem?_cons_succ, List.getElem?_cons_zero] at g0
                      go_wp2_with fail
                      refine (HM51.out _ H9.out).mono ?_
                      rintro en w10 ⟨rfl, HG10, ⟨HQ10, H10⟩ | ⟨HQ10, H10⟩⟩
                      rotate_left
                      · exact absurd H41.out HQ10.out
                      have BB := hid (B9.out.grown H9.out.rf HG10.out (by omega) (by omega))
                      have HD := H10
                      have c0 := cell_at (o := 0) BB.out.res
                      have c1 := cell_at (o := 1) BB.out.res
                      have d0 := cell_at (o := 0) BB.out.ablk
                      have d1 := cell_at (o := 1) BB.out.ablk
                      simp only [List.getElem?_toArray, List.getElem?_cons_succ, List.getElem?_cons_zero] at c0 c1 d0 d1
                      have e0 := free_of (o := 0) BB.out.res
                      have e1 := free_of (o := 1) BB.out.res
                      have RB4 := act_store (k := 4) (v := .slice po pn pc) BB.out.res
                      have m0 := cell_at (o := 0) RB4
                      have m1 := cell_at (o := 1) RB4
                      simp only [List.getElem?_toArray, List.getElem?_cons_succ, List.getElem?_cons_zero] at m0 m1
                      clear RB4
                      go_wp2
                      refine bodyPost_ret (v := .agg #[.int .i64 4, .slice po pn pc]) (by simp [results, Tryz.results83, go_sem, m0, m1]) rfl ?_
                      have R3 := (HD.out.new (B := w.heap.size) (o := 0) (.int .i64 4) hrb hgl (Nat.le_refl _)).new (B := w.heap.size) (o := 1) (.slice po pn pc) hrb hgl (Nat.le_refl _)
                      refine ⟨R3.on, 4, _, rfl, ⟨_, _, _, rfl⟩, Or.inl ⟨_, j + 1 + 1, HACT.out, R3.rf, ?_⟩⟩
                      exact BB.out.ports.kept fun b cs q _ => by
                        have hne : b ≠ w.heap.size := fun e => by
                          rw [e, BB.out.res] at q
                          simp only [Option.some.injEq, Obj.cells.injEq] at q
                          exact absurd q.2.1 (by decide)
                        rw [Below.heap_setCell _ _ _ _ hne, Below.heap_setCell _ _ _ _ hne]
                  · have hb41 : (y2.1 == [41]) = false := by simpa using h41
                    have HACT := hid (act_err HKIND.out (by omega) (fin_51 HPR.out h44 h41))
                    have H41 := hid h41
                    clear h44 h41
                    go_wp2_with fail
                    refine (HWD2.out _ D7.out).mono ?_
                    rintro en w8 ⟨rfl, HB8, H8⟩
                    obtain ⟨r1, r2, r3, r4, _⟩ := H8.out.rf.cells
                    go_wp2_with fail
                    refine (HWD2.out _ H8.out).mono ?_
                    rintro en w9 ⟨rfl, HB9, H9⟩
                    have B9 := hid ((B7.out.below HB8.out).below HB9.out)
                    go_wp2_with fail
                    refine (HM51.out _ H9.out).mono ?_
                    rintro en w10 ⟨rfl, HG10, ⟨HQ10, H10⟩ | ⟨HQ10, H10⟩⟩
                    · exact absurd HQ10.out H41.out
                    have BB := hid (B9.out.grown H9.out.rf HG10.out (by omega) (by omega))
                    have HD := H10
                    have c0 := cell_at (o := 0) BB.out.res
                    have c1 := cell_at (o := 1) BB.out.res
                    have d0 := cell_at (o := 0) BB.out.ablk
                    have d1 := cell_at (o := 1) BB.out.ablk
                    simp only [List.getElem?_toArray, List.getElem?_cons_succ, List.getElem?_cons_zero] at c0 c1 d0 d1
                    have e0 := free_of (o := 0) BB.out.res
                    have e1 := free_of (o := 1) BB.out.res
                    have RB4 := act_store (k := 4) (v := .slice po pn pc) BB.out.res
                    have m0 := cell_at (o := 0) RB4
                    have m1 := cell_at (o := 1) RB4
                    simp only [List.getElem?_toArray, List.getElem?_cons_succ, List.getElem?_cons_zero] at m0 m1
                    clear RB4
                    go_wp2
                    refine bodyPost_ret (v := .agg #[.int .i64 4, .slice po pn pc]) (by simp [results, Tryz.results83, go_sem, m0, m1]) rfl ?_
                    have R3 := (HD.out.new (B := w.heap.size) (o := 0) (.int .i64 4) hrb hgl (Nat.le_refl _)).new (B := w.heap.size) (o := 1) (.slice po pn pc) hrb hgl (Nat.le_refl _)
                    exact ⟨R3.on, 4, _, rfl, ⟨_, _, _, rfl⟩, Or.inr ⟨Ru.ft y2 51, j + 1, HACT.out, (by simp [Ru.ft]), R3.rf⟩⟩
        · have b1 : (x.1 == [100, 114, 111, 112]) = false := by simpa using h1
          have b2 : (x.1 == [100, 101, 108, 105, 118, 101, 114]) = false := by simpa using h2
          have b3 : (x.1 == [97, 108, 108]) = false := by simpa using h3
          have b4 : (x.1 == [97, 110, 121]) = false := by simpa using h4
          have HACT := hid (act_none HX.out h1 h2 h3 h4)
          clear h1 h2 h3 h4
          go_enter Tryz.func83, Tryz.ntmps83
          go_wp2_with fail
          refine HW.out.mono ?_
          rintro en w1 ⟨rfl, HB1, H1⟩
          obtain ⟨k1, k2, k3, k4, f1, f2, f3, f4⟩ := H1.out.rf.cells
          have RB1 := hid (below_block HB1.out (new_0 w (aob 0 (.slice none 0 0))) (by simp))
          go_wp2_with fail
          refine (HFl.out _ H1.out).mono ?_
          rintro en w2 ⟨rfl, HG2, H2⟩
          have RB2 := block_grow RB1.out HG2.out (by omega)
          have c0 := cell_at (o := 0) RB2
          have c1 := cell_at (o := 1) RB2
          simp only [List.getElem?_toArray, List.getElem?_cons_succ, List.getElem?_cons_zero] at c0 c1
          have e0 := free_of (o := 0) RB2
          have e1 := free_of (o := 1) RB2
          have RB3 := act_store (k := 0) (v := .slice none 0 0) RB2
          have m0 := cell_at (o := 0) RB3
          have m1 := cell_at (o := 1) RB3
          simp only [List.getElem?_toArray, List.getElem?_cons_succ, List.getElem?_cons_zero] at m0 m1
          clear RB2 RB3
          go_wp2
          refine bodyPost_ret (v := .agg #[.int .i64 0, .slice none 0 0]) (by simp [results, Tryz.results83, go_sem, m0, m1]) rfl ?_
          have R3 := (H2.out.new (B := w.heap.size) (o := 0) (.int .i64 0) hrb hgl (Nat.le_refl _)).new (B := w.heap.size) (o := 1) (.slice none 0 0) hrb hgl (Nat.le_refl _)
          exact ⟨R3.on, 0, _, rfl, ⟨_, _, _, rfl⟩, Or.inr ⟨Ru.ft x 51, i, HACT.out, (by simp [Ru.ft]), R3.rf⟩⟩
end Go.Proofs.YtemmhingmeinjaaGreatDoor
