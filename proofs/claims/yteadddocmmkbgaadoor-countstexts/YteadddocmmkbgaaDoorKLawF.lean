/-
  Counts: the laws' walks: Texts.
-/
import Derived.Test.YteadddocmmkbgaaDoorKAwake
import Derived.Test.YteadddocmmkbgaaDoorKRefO
namespace Go.Proofs.YteadddocmmkbgaaDoor.Co
open Go.RowKit Go.Shelf

set_option maxRecDepth 100000 in
set_option maxHeartbeats 2000000 in
theorem ktexts_any {t : Int} {c : Nat} {b : ByteArray} {w : World} (h64 : c < 18446744073709551616) (hs : b.size ≤ 9223372036854775807) (hP : PowTab w) :
    Calls Tryd.prog 6 #[.int .i64 t, .int .u64 (c : Int), .string b] w fun e w' => e = .returned (.bool true) ∧ Below w.heap.size w w' := by
  obtain ⟨s, rfl⟩ : ∃ s, b = tx s := ⟨b.data.toList, rfl⟩
  have hs' : s.length ≤ 9223372036854775807 := hs
  have HP := hid hP
  have HT := hid (Text_any (t := t) h64 hP)
  have HR := hid (fun w' (hb : Below w.heap.size w w') => RText_any (t := t) (c := c) (w := w') h64 (hP.below hb))
  have HX := hid (fun w' (hb : Below w.heap.size w w') => Read_any (t := t) (s := s) (w := w') hs' (hP.below hb))
  have HY := hid (fun w' (hb : Below w.heap.size w w') => RRead_is (t := t) (s := s) (w := w') hs' (hP.below hb))
  obtain ⟨q, hq⟩ : ∃ q, q = textP t c := ⟨_, rfl⟩
  obtain ⟨r, hr⟩ : ∃ r, r = readP t s := ⟨_, rfl⟩
  rw [← hq] at HT HR
  rw [← hr] at HX HY
  clear hq hr hP
  obtain ⟨q1, q2⟩ := q
  obtain ⟨r1, r2, r3⟩ := r
  simp only at HT HR HX HY
  go_enter Tryd.func6, Tryd.ntmps6
  go_wp2_with fail
  refine HT.out.mono ?_
  rintro e w1 ⟨rfl, hb1⟩
  have B1 := hid hb1
  clear hb1
  go_wp2_with fail
  refine (HR.out _ B1.out).mono ?_
  rintro e w2 ⟨rfl, hb2⟩
  have B2 := hid (below_tr B1.out hb2)
  clear hb2
  go_wp2_with fail
  refine (HX.out _ B2.out).mono ?_
  rintro e w3 ⟨rfl, hb3⟩
  have B3 := hid (below_tr B2.out hb3)
  clear hb3
  go_wp2_with fail
  refine (HY.out _ B3.out).mono ?_
  rintro e w4 ⟨rfl, hb4⟩
  have B4 := hid (below_tr B3.out hb4)
  have HK := hid (kawake (HP.out.below B4.out))
  clear hb4
  go_wp2_with fail
  refine HK.out.mono ?_
  rintro e w5 ⟨rfl, hb5⟩
  have B5 := hid (below_tr B4.out hb5)
  clear hb5
  go_wp2
  go_ret
  exact ⟨rfl, B5.out⟩
end Go.Proofs.YteadddocmmkbgaaDoor.Co
