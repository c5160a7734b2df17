/-
  Counts: the laws' walks: Back.
-/
import Derived.Test.YteadddocmmkbgabDoorKAwake
import Derived.Test.YteadddocmmkbgabDoorKRdD
import Derived.Test.YteadddocmmkbgabDoorKMathB
namespace Go.Proofs.YteadddocmmkbgabDoor.Co
open Go.RowKit Go.Shelf

theorem txt_len {t c : Nat} (ht : t ≤ 62) : (txtL t c).length ≤ 1000 := by
  unfold txtL
  have h : ∃ ys : List (El t), ys.map Subtype.val = els t c := by
    refine ⟨(els t c).attach.map fun x => ⟨x.1, by have := (mem_els.1 x.2).1; omega⟩, ?_⟩
    rw [List.map_map]
    exact List.attach_map_subtype_val _
  obtain ⟨ys, hy⟩ := h
  have hw : (els t c).map (wordT t) = wordsOf ys := by rw [← hy, List.map_map]; rfl
  have hl := join_len ht ys
  have hn : ys.length ≤ 64 := by
    have := upTo_len c (t + 2)
    have e : ys.length = (els t c).length := by rw [← hy, List.length_map]
    have e2 : els t c = upTo c (t + 2) := rfl
    rw [e, e2]; omega
  rw [hw]
  simp only [List.length_cons, List.length_append, List.length_nil]
  omega
set_option maxRecDepth 100000 in
set_option maxHeartbeats 2000000 in
theorem kback_any {t : Int} {c : Nat} {w : World} (h64 : c < 18446744073709551616) (hP : PowTab w) :
    Calls Tryd.prog 4 #[.int .i64 t, .int .u64 (c : Int)] w fun e w' => e = .returned (.bool true) ∧ Below w.heap.size w w' := by
  have HP := hid hP
  have HT := hid (Text_any (t := t) h64 hP)
  by_cases h0 : chkE t [c] = 0
  · have hr := chk_range h0
    obtain ⟨m, rfl⟩ : ∃ m : Nat, t = (m : Int) := ⟨t.toNat, by omega⟩
    have hm : m ≤ 62 := by omega
    have hmay : mayB m c = true := chk_may h0 c (by simp)
    have e1 : textP (m : Int) c = (txtL m c, 0) := by unfold textP; rw [if_pos h0]; rfl
    rw [e1] at HT
    have hlen := txt_len (c := c) hm
    have HRD := hid (fun w' (hb : Below w.heap.size w w') => Read_any (t := (m : Int)) (s := txtL m c) (w := w') (by omega) (hP.below hb))
    rw [readP_ok hm (setR_txt hm hmay)] at HRD
    obtain ⟨s, hs⟩ : ∃ s, s = txtL m c := ⟨_, rfl⟩
    rw [← hs] at HT HRD
    clear hs hlen e1 hmay h0 hr hP
    go_enter Tryd.func4, Tryd.ntmps4
    go_wp2_with fail
    refine HT.out.mono ?_
    rintro e w1 ⟨rfl, hb1⟩
    have B1 := hid hb1
    clear hb1
    go_wp2_with fail
    refine (HRD.out _ B1.out).mono ?_
    rintro e w2 ⟨rfl, hb2⟩
    have B2 := hid (below_tr B1.out hb2)
    have HK := hid (kawake (HP.out.below B2.out))
    clear hb2
    go_wp2_with fail
    refine HK.out.mono ?_
    rintro e w3 ⟨rfl, hb3⟩
    have B3 := hid (below_tr B2.out hb3)
    clear hb3
    go_wp2
    go_ret
    exact ⟨rfl, B3.out⟩
  · have e1 : textP t c = ([], chkE t [c]) := by unfold textP; rw [if_neg h0]
    rw [e1] at HT
    have h0' : (chkE t [c] == 0) = false := by simpa using h0
    obtain ⟨q, hq⟩ : ∃ q, q = chkE t [c] := ⟨_, rfl⟩
    rw [← hq] at HT h0'
    clear hq h0 e1 hP
    go_enter Tryd.func4, Tryd.ntmps4
    go_wp2_with fail
    refine HT.out.mono ?_
    rintro e w1 ⟨rfl, hb1⟩
    have B1 := hid hb1
    have HK := hid (kawake (HP.out.below hb1))
    clear hb1
    go_wp2_with fail
    refine HK.out.mono ?_
    rintro e w2 ⟨rfl, hb2⟩
    have B2 := hid (below_tr B1.out hb2)
    clear hb2
    go_wp2
    go_ret
    exact ⟨rfl, B2.out⟩
end Go.Proofs.YteadddocmmkbgabDoor.Co
