/-
  VectorOwn's law.
-/
import Derived.Test.YtibbbjikehkbmabDoorGOwnB
import Derived.Test.YtibbbjikehkbmabDoorGRWith
import Derived.Test.YtibbbjikehkbmabDoorGRMrgA
import Derived.Test.YtibbbjikehkbmabDoorGSame
import Derived.Test.YtibbbjikehkbmabDoorGAwake
namespace Go.Proofs.YtibbbjikehkbmabDoor.Ve
open Go.RowKit

theorem oSame {w : World} {v1 v2 : Value} {l : List St} (h1 : VecV w v1 l) (h2 : VecV w v2 l) (hl : l.length ≤ maxLen) : Calls Tryd.prog 8 #[v1, v2] w fun e w' => e = .returned (.bool true) ∧ ∃ n, w' = w.drewN n := by
  have h := RSame_any h1 h2 hl hl
  rw [show decide (l = l) = true from decide_eq_true rfl] at h
  exact h
attribute [local go_sem ↓] appC_fold
set_option maxRecDepth 20000 in
set_option maxHeartbeats 8000000 in
theorem vown_any {w : World} {v u : Value} {a l : List St} (ha : VecV w v a) (hl : VecV w u l) (la : a.length * 16 ≤ 140737488355328) (ll : l.length ≤ maxLen) :
    Calls Tryd.prog 3 #[v, u] w fun e w' => e = .returned (.bool true) ∧ Below w.heap.size w w' := by
  have HA := hid ha
  have HL := hid hl
  have HLA := hid (show a.length ≤ maxLen by unfold maxLen; omega)
  have h1m : ∀ x ∈ [a], x.length ≤ maxLen := fun x hx => by simp at hx; subst hx; exact HLA.out
  have W1 := hid (fun W v (hv : VecV W v a) (hb : Below w.heap.size w W) => With_any hv (HL.out.below hb) HLA.out ll)
  have W2 := hid (fun W (hb : Below w.heap.size w W) => RWith_any (HA.out.below hb) (HL.out.below hb) HLA.out ll)
  have M1 := hid (fun W v (hv : VecV W v a) => Merge_any (vecs_one (t := 23) (n := W.heap.size) rfl hv) (by simp [maxLen]) h1m)
  have J1 := hid (fun W v (hv : VecV W v a) => Join_any (vecs_one (t := 23) (n := W.heap.size) rfl hv) (by simp [maxLen]) h1m)
  have M2 := hid (fun W v (hv : VecV W v a) => RMerge_any (vecs_one (t := 23) (n := W.heap.size) rfl hv) (by simp [maxLen]) h1m)
  obtain ⟨⟨j, k⟩, hq⟩ : ∃ q, q = withP a l := ⟨_, rfl⟩
  have HLJ := hid (show j.length ≤ maxLen by have := with_len a l; rw [← hq] at this; exact this)
  obtain ⟨⟨q, x, y⟩, hp⟩ : ∃ p, p = mrgP [a] := ⟨_, rfl⟩
  have HLQ := hid (show q.length ≤ maxLen by have := mrg_one_len a; rw [← hp] at this; exact this)
  obtain ⟨⟨jq, jz⟩, hj⟩ : ∃ p, p = joinP [a] := ⟨_, rfl⟩
  have hone := mrg_one a
  rw [← hp, ← hj] at hone
  simp only at hone
  obtain ⟨hcase, hjq⟩ := hone
  subst hjq
  rw [← hq] at W1 W2
  rw [← hp] at M1 M2
  rw [← hj] at J1
  obtain ⟨ao, ca, rfl, -, -, -⟩ := ha
  obtain ⟨lo, cl, rfl, -, -, -⟩ := hl
  obtain ⟨n, hn⟩ : ∃ n, n = a.length := ⟨_, rfl⟩
  obtain ⟨m, hm⟩ : ∃ m, m = l.length := ⟨_, rfl⟩
  have hA := HA.out
  rw [← hn] at hA
  rw [← hn] at HA W2 ⊢
  rw [← hm] at HL W1 W2 ⊢
  have HN := hid hn
  obtain ⟨bo, bc, w1, hrun, HB⟩ := copy_new (w := w) (a := ao) (n := n) (c := ca) hA la
  have H1 := hid HB.out.2
  have O1 := hid HB.out.1
  obtain ⟨nb, hnb⟩ : ∃ nb, nb = jq.length := ⟨_, rfl⟩
  have HNB := hid hnb
  simp only at W1 W2 M1 M2 J1
  have HW := hid awake_any
  have hk : (k == k) = true := beq_self_eq_true k
  have n0 : (0 : Int) ≤ (n : Int) := by omega
  have HCASE := hid (show y = 0 ∨ (y = 160 ∧ nb = 0) by
    rcases hcase with h | ⟨h, h'⟩
    · exact Or.inl h
    · exact Or.inr ⟨h, by rw [hnb, h']; rfl⟩)
  have hn63 : n ≤ 9223372036854775807 := by omega
  clear hn hm ll hA HB hp hq hj hcase hnb la h1m
  go_enter Tryd.func3, Tryd.ntmps3
  go_wp2_with fail
  refine (W1.out _ _ O1.out.vec H1.out).mono ?_
  rintro e w2 ⟨v2, rfl, ho, hb⟩
  have S2 := hid hb.size
  have H2 := hid (H1.out.trans (hb.mono H1.out.size))
  have O2 := hid (O1.out.on hb)
  have A2 := hid ho
  obtain ⟨a2, n2, c2, rfl⟩ : ∃ a n c, v2 = .slice a n c := by obtain ⟨a, c, e⟩ := ho.form; exact ⟨a, _, c, e⟩
  clear hb ho
  go_wp2_with fail
  refine (M1.out _ _ O2.out.vec).mono ?_
  rintro e w3 ⟨v3, rfl, ho, hb⟩
  have hb := below_tr (below_al _ _) hb
  have S3 := hid (Nat.le_trans S2.out hb.size)
  have H3 := hid (H2.out.trans (hb.mono H2.out.size))
  have O3 := hid (O2.out.on hb)
  have A3 := hid (A2.out.on hb)
  have B3 := hid (own_mono ho (Nat.le_trans S2.out (below_al _ _).size))
  obtain ⟨a3, c3, e3⟩ := ho.form
  rw [← HNB.out] at e3
  subst e3
  clear hb ho
  go_wp2_with fail
  refine (J1.out _ _ O3.out.vec).mono ?_
  rintro e w4 ⟨v4, rfl, ho, hb⟩
  have hb := below_tr (below_al _ _) hb
  have S4 := hid (Nat.le_trans S3.out hb.size)
  have H4 := hid (H3.out.trans (hb.mono H3.out.size))
  have O4 := hid (O3.out.on hb)
  have A4 := hid (A3.out.on hb)
  have B4 := hid (B3.out.on hb)
  have C4 := hid (own_mono ho (Nat.le_trans S3.out (below_al _ _).size))
  obtain ⟨a4, n4, c4, rfl⟩ : ∃ a n c, v4 = .slice a n c := by obtain ⟨a, c, e⟩ := ho.form; exact ⟨a, _, c, e⟩
  clear hb ho
  go_wp2_with fail
  refine (oSame O4.out.vec (HA.out.below H4.out) HLA.out).mono ?_
  rintro e w5 ⟨rfl, hd⟩
  have hb := drew_below hd
  have HL5 := hid (show n = 0 ∨ ∃ g, bo = some ⟨g, 0, none⟩ ∧ w.heap.size ≤ g ∧ g < w1.heap.size ∧ ∃ cur, w5.heap[g]? = some (.cells cur 33 (0, 0)) ∧ n * 2 ≤ cur.size by
    rcases own_lies O1.out HN.out with h | ⟨g', e', _, hg1, _⟩
    · exact Or.inl h
    · rcases own_lies (O4.out.on hb) HN.out with h | ⟨g, e, hg, _, r⟩
      · exact Or.inl h
      · refine Or.inr ⟨g, e, hg, ?_, r⟩
        rw [e] at e'
        injection e' with e'
        injection e' with e' _ _
        omega)
  have H5 := hid (show Below w.heap.size w w5 ∧ OwnS w5 w1.heap.size (.slice a2 n2 c2) j ∧ OwnS w5 w1.heap.size (.slice a3 nb c3) jq ∧ OwnS w5 w1.heap.size (.slice a4 n4 c4) jq from ⟨H4.out.trans (hb.mono H4.out.size), A4.out.on hb, B4.out.on hb, C4.out.on hb⟩)
  clear hd hb S2 S3 S4 H2 H3 H4 O2 O3 O4 A2 A3 A4 B3 B4 C4
  go_wp2_with fail
  go_loopw [13, 47] (fun _ vc wr => ∃ i : Nat, i ≤ n ∧ vc = .int .i64 i ∧ Hid (Below w.heap.size w wr ∧ OwnS wr w1.heap.size (.slice a2 n2 c2) j ∧ OwnS wr w1.heap.size (.slice a3 nb c3) jq ∧ OwnS wr w1.heap.size (.slice a4 n4 c4) jq) ∧ Hid (n = 0 ∨ ∃ g, bo = some ⟨g, 0, none⟩ ∧ w.heap.size ≤ g ∧ g < w1.heap.size ∧ ∃ cur, wr.heap[g]? = some (.cells cur 33 (0, 0)) ∧ n * 2 ≤ cur.size)) (fun _ vc _ => n - (intOf vc).toNat)
  case atStart => exact ⟨0, Nat.zero_le _, rfl, H5, HL5⟩
  case round =>
    clear H5 HL5
    obtain ⟨i, hi, rfl, HR, HLI⟩ := hrel
    by_cases hlt : i < n
    · have iI : (i : Int) < (n : Int) := by omega
      have i0 : (0 : Int) ≤ (i : Int) := by omega
      obtain ⟨g, rfl, hg0, hg1, cur, hgh, hcs⟩ := HLI.out.resolve_left (by omega)
      obtain ⟨z0, y0⟩ : ∃ z, wr.cell? ⟨g, i * 2, none⟩ = some z := cells_some hgh (by omega)
      obtain ⟨z1, y1⟩ : ∃ z, wr.cell? ⟨g, i * 2 + 1, none⟩ = some z := cells_some hgh (by omega)
      have f0 := free_of (o := i * 2) hgh
      have f1 := free_of (o := i * 2 + 1) hgh
      have ow : ∀ {v : Value} {x : List St}, OwnS wr w1.heap.size v x → OwnS ((wr.setCell ⟨g, i * 2, none⟩ (.int .i64 (-1))).setCell ⟨g, i * 2 + 1, none⟩ (.int .u64 0)) w1.heap.size v x := fun h => own_elsewhere (p := ⟨g, i * 2 + 1, none⟩) (own_elsewhere (p := ⟨g, i * 2, none⟩) h hg1 _) hg1 _
      have hbl : Below w.heap.size w ((wr.setCell ⟨g, i * 2, none⟩ (.int .i64 (-1))).setCell ⟨g, i * 2 + 1, none⟩ (.int .u64 0)) := (HR.out.1.setCell (p := ⟨g, i * 2, none⟩) hg0 _).setCell (p := ⟨g, i * 2 + 1, none⟩) hg0 _
      have HRN := hid (And.intro hbl (And.intro (ow HR.out.2.1) (And.intro (ow HR.out.2.2.1) (ow HR.out.2.2.2))))
      clear ow hbl
      have HLN := hid (show n = 0 ∨ ∃ g', (some ⟨g, 0, none⟩ : Option Addr) = some ⟨g', 0, none⟩ ∧ w.heap.size ≤ g' ∧ g' < w1.heap.size ∧ ∃ cur, ((wr.setCell ⟨g, i * 2, none⟩ (.int .i64 (-1))).setCell ⟨g, i * 2 + 1, none⟩ (.int .u64 0)).heap[g']? = some (.cells cur 33 (0, 0)) ∧ n * 2 ≤ cur.size from Or.inr ⟨g, rfl, hg0, hg1, _, block_set _ (block_set _ hgh), by simpa using hcs⟩)
      clear hgh
      go_wp2_with fail
      go_roundw
      case rel => exact ⟨i + 1, by omega, by go_num, HRN, HLN⟩
      case measure => simp [intOf]; omega
    · have iI : ¬ (i : Int) < (n : Int) := by omega
      clear HLI
      go_wp2_with fail
      refine (W2.out _ HR.out.1).mono ?_
      rintro e w6 ⟨v6, rfl, ho, hb⟩
      have H6 := hid (below_tr HR.out.1 hb)
      have A6 := hid (HR.out.2.1.on hb)
      have B6 := hid (HR.out.2.2.1.on hb)
      have C6 := hid (HR.out.2.2.2.on hb)
      have D6 := hid ho
      obtain ⟨a6, n6, c6, rfl⟩ : ∃ a n c, v6 = .slice a n c := by obtain ⟨a, c, e⟩ := ho.form; exact ⟨a, _, c, e⟩
      clear hb ho HR
      go_wp2_with fail
      refine (M2.out _ _ (HA.out.below H6.out)).mono ?_
      rintro e w7 ⟨v7, rfl, hv, hb⟩
      have hb := below_tr (below_al _ _) hb
      have H7 := hid (below_tr H6.out hb)
      have A7 := hid (A6.out.on hb).vec
      have B7 := hid (B6.out.on hb).vec
      have C7 := hid (C6.out.on hb).vec
      have D7 := hid (D6.out.on hb).vec
      have X7 := hid hv
      obtain ⟨a7, n7, c7, rfl⟩ : ∃ a n c, v7 = .slice a n c := by obtain ⟨a, c, e, _⟩ := hv; exact ⟨a, _, c, e⟩
      clear hb hv H6 A6 B6 C6 D6
      rcases HCASE.out with h | ⟨h, h0⟩
      · subst h
        go_wp2_with fail
        refine (oSame A7.out D7.out HLJ.out).mono ?_
        rintro e w8 ⟨rfl, hd⟩
        have hb := drew_below hd
        have H8 := hid (below_tr H7.out hb)
        have B8 := hid (B7.out.below hb)
        have C8 := hid (C7.out.below hb)
        have X8 := hid (X7.out.below hb)
        clear hb hd
        go_wp2_with fail
        refine (oSame B8.out X8.out HLQ.out).mono ?_
        rintro e w9 ⟨rfl, hd⟩
        have hb := drew_below hd
        have H9 := hid (below_tr H8.out hb)
        have C9 := hid (C8.out.below hb)
        have X9 := hid (X8.out.below hb)
        clear hb hd
        go_wp2_with fail
        refine (oSame C9.out X9.out HLQ.out).mono ?_
        rintro e w10 ⟨rfl, hd⟩
        have H10 := hid (below_tr H9.out (drew_below hd))
        clear hd
        go_wp2_with fail
        refine (HW.out w10).mono ?_
        rintro e w11 ⟨rfl, hb⟩
        have H11 := hid (below_tr H10.out hb)
        clear hb
        go_wp2
        go_ret
        exact ⟨by rfl, H11.out⟩
      · subst h h0
        go_wp2_with fail
        refine (oSame A7.out D7.out HLJ.out).mono ?_
        rintro e w8 ⟨rfl, hd⟩
        have hb := drew_below hd
        have H8 := hid (below_tr H7.out hb)
        have B8 := hid (B7.out.below hb)
        have C8 := hid (C7.out.below hb)
        have X8 := hid (X7.out.below hb)
        clear hb hd
        go_wp2_with fail
        refine (oSame B8.out X8.out HLQ.out).mono ?_
        rintro e w9 ⟨rfl, hd⟩
        have hb := drew_below hd
        have H9 := hid (below_tr H8.out hb)
        have C9 := hid (C8.out.below hb)
        have X9 := hid (X8.out.below hb)
        clear hb hd
        go_wp2_with fail
        refine (oSame C9.out X9.out HLQ.out).mono ?_
        rintro e w10 ⟨rfl, hd⟩
        have H10 := hid (below_tr H9.out (drew_below hd))
        clear hd
        go_wp2_with fail
        refine (HW.out w10).mono ?_
        rintro e w11 ⟨rfl, hb⟩
        have H11 := hid (below_tr H10.out hb)
        clear hb
        go_wp2
        go_ret
        exact ⟨by rfl, H11.out⟩
end Go.Proofs.YtibbbjikehkbmabDoor.Ve
