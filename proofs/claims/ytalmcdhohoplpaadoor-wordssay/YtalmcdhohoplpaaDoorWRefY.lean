/-
  Say by the document's own reckoning.
-/
import Derived.Test.YtalmcdhohoplpaaDoorWRefS
namespace Go.Proofs.YtalmcdhohoplpaaDoor
open Go.RowKit

set_option maxHeartbeats 1000000 in
theorem RSay_none (ao : Option Addr) (cap : Nat) (w : World) : Calls Tryd.prog 21 #[.slice ao 0 cap] w fun e w' => e = .returned (.tuple #[.string (tx []), .int .i64 0]) ∧ Below w.heap.size w w' := by
  go_enter Tryd.func21, Tryd.ntmps21
  go_wp2
  refine wp_loop_rounds 1 ?_
  rw [rounds_succ]
  go_wp2
  refine wp_loop_rounds 1 ?_
  rw [rounds_succ]
  go_wp2
  go_ret2
  exact ⟨rfl, Below.refl _ _⟩

theorem tx_app (a b : List UInt8) : tx a ++ tx b = tx (a ++ b) := by
  apply ByteArray.ext
  simp

theorem two_kept {w w1 : World} {g a b : Nat} {u v : Value} (hg : g < w.heap.size) (h1 : w.cell? ⟨g, a, none⟩ = some u) (h2 : w.cell? ⟨g, b, none⟩ = some v) (hb : Below w.heap.size w w1) : w1.cell? ⟨g, a, none⟩ = some u ∧ w1.cell? ⟨g, b, none⟩ = some v :=
  ⟨(hb.cell (p := ⟨g, a, none⟩) hg).trans h1, (hb.cell (p := ⟨g, b, none⟩) hg).trans h2⟩

set_option maxRecDepth 4000 in
set_option maxHeartbeats 4000000 in
theorem RSay_some (ls : List (List UInt8)) (g o cap : Nat) (w : World) (hg : g < w.heap.size) (hc : ∀ i, i < ls.length → w.cell? ⟨g, o + i, none⟩ = some (.string (tx (ls.getD i [])))) (hn : ls.length ≤ 60) (h4 : ∀ l ∈ ls, l.length ≤ 4000) :
    Calls Tryd.prog 21 #[.slice (some ⟨g, o, none⟩) ls.length cap] w fun e w' => e = .returned (.tuple #[.string (tx (sayS ls)), .int .i64 (sayE ls)]) ∧ Below w.heap.size w w' := by
  have HC := hid hc
  have H4 := hid h4
  clear hc h4
  obtain ⟨n, hnn⟩ : ∃ n, n = ls.length := ⟨_, rfl⟩
  have HN := hid hnn
  rw [← hnn] at hn ⊢
  clear hnn
  go_enter Tryd.func21, Tryd.ntmps21
  go_wp2
  go_loopw [4] (fun i wr => ∃ k : Nat, k ≤ n ∧ i = .int .i64 k ∧ Hid (∀ j, j < k → Wo.isW (ls.getD j []) = true) ∧ Hid (Below w.heap.size w wr)) (fun i _ => n - (intOf i).toNat)
  case atStart => exact ⟨0, Nat.zero_le _, rfl, fun j hj => absurd hj (Nat.not_lt_zero j), Below.refl _ _⟩
  case round =>
    obtain ⟨k, hk, rfl, HW, HL⟩ := hrel
    by_cases hlt : k < n
    · have ck : wr.cell? ⟨g, o + k, none⟩ = some (.string (tx (ls.getD k []))) := by rw [HL.out.cell (by exact hg)]; exact HC.out k (by rw [← HN.out]; exact hlt)
      obtain ⟨x, hx⟩ : ∃ x, x = ls.getD k [] := ⟨_, rfl⟩
      have hxl := getD_len ls H4.out k
      rw [← hx] at ck hxl
      have HX := hid hx
      clear hx
      have hkI : (0 : Int) ≤ (k : Int) := by omega
      have hkI2 : (k : Int) < (n : Int) := by omega
      have q := fun w => Rword_any x w (by omega)
      rcases bool_two (Wo.isW x) with h1 | h1
      · have HE := hid (show allW ls = false by
          cases hq : allW ls with
          | false => rfl
          | true => have := allW_getD.1 hq k (by rw [← HN.out]; exact hlt); rw [← HX.out, h1] at this; exact absurd this (by simp))
        rw [h1] at q
        clear h1
        go_wp2_with (go_at_call 35; refine (q _).mono ?_; rintro e w1 ⟨rfl, hb1⟩)
        go_ret2
        refine ⟨?_, HL.out.trans (hb1.mono HL.out.size)⟩
        unfold sayS sayE
        rw [HE.out]; rfl
      · have HW2 := hid (show ∀ j, j < k + 1 → Wo.isW (ls.getD j []) = true from fun j hj => by
          by_cases e : j = k
          · rw [e, ← HX.out]; exact h1
          · exact HW.out j (by omega))
        rw [h1] at q
        clear h1
        go_wp2_with (go_at_call 35; refine (q _).mono ?_; rintro e w1 ⟨rfl, hb1⟩)
        go_roundw
        case rel => exact ⟨k + 1, by omega, by go_num, HW2, HL.out.trans (hb1.mono HL.out.size)⟩
        case measure => simp [intOf]; omega
    · have HE := hid (show allW ls = true from allW_getD.2 (fun i hi => HW.out i (by rw [← HN.out] at hi; omega)))
      have HWA := hid (show ∀ j, j < n → Wo.isW (ls.getD j []) = true from fun j hj => HW.out j (by omega))
      clear HW
      rename World => wo
      go_wp2
      go_loopw [5, 6] (fun s i wr => ∃ k : Nat, k ≤ n ∧ i = .int .i64 k ∧ s = .string (tx (Wo.sayTo ls k)) ∧ Hid (Below w.heap.size w wr)) (fun _ i _ => n - (intOf i).toNat)
      case atStart => exact ⟨0, Nat.zero_le _, rfl, rfl, HL⟩
      case round =>
        obtain ⟨k, hk, rfl, rfl, HL2⟩ := hrel
        have hsl := sayTo_len ls H4.out k
        by_cases hlt : k < n
        · have ck : wr.cell? ⟨g, o + k, none⟩ = some (.string (tx (ls.getD k []))) := by rw [HL2.out.cell (by exact hg)]; exact HC.out k (by rw [← HN.out]; exact hlt)
          obtain ⟨x, hx⟩ : ∃ x, x = ls.getD k [] := ⟨_, rfl⟩
          have hxl := getD_len ls H4.out k
          have hxw := HWA.out k hlt
          rw [← hx] at ck hxl hxw
          have HX := hid hx
          have HXW := hid hxw
          clear hx hxw
          obtain ⟨t, ht⟩ : ∃ t, t = Wo.sayTo ls k := ⟨_, rfl⟩
          rw [← ht] at hsl ⊢
          have HT := hid ht
          clear ht
          have hkI : (0 : Int) ≤ (k : Int) := by omega
          have hkI2 : (k : Int) < (n : Int) := by omega
          have hov : ¬ 9223372036854775807 < t.length + x.length := by omega
          have hov1 : ¬ 9223372036854775807 < t.length + 1 := by omega
          have hov2 : ¬ 9223372036854775807 < t.length + 1 + x.length := by omega
          have hgr : g < wr.heap.size := Nat.lt_of_lt_of_le hg HL2.out.size
          by_cases hk0 : 0 < k
          · obtain ⟨y, hy⟩ : ∃ y, y = ls.getD (k - 1) [] := ⟨_, rfl⟩
            have cy : wr.cell? ⟨g, o + (k - 1), none⟩ = some (.string (tx y)) := by
              rw [HL2.out.cell (by exact hg), hy]
              exact HC.out (k - 1) (by rw [← HN.out]; omega)
            have hyl := getD_len ls H4.out (k - 1)
            have hyw := HWA.out (k - 1) (by omega)
            rw [← hy] at hyl hyw
            have hp1 : (0 : Int) ≤ (k : Int) - 1 := by omega
            have hp2 : (k : Int) - 1 < (n : Int) := by omega
            have hk0I : (0 : Int) < (k : Int) := by omega
            have hwr : IntKind.i64.wrap ((k : Int) - 1) = (k : Int) - 1 := by rw [IntKind.wrap_i64]; omega
            have hz1 : (1 : Int) ≤ (k : Int) := by omega
            have hz2 : 1 ≤ k := by omega
            have hz3 : (k : Int) < (n : Int) + 1 := by omega
            have hz4 : k < n + 1 := by omega
            have HY := hid hy
            have HYW := hid hyw
            clear hy hyw
            have q := fun w => Rglued_any y x w HYW.out HXW.out (by omega)
            rcases bool_two (Wo.glue y x) with h2 | h2
            · have HE0 := hid (show Wo.sayTo ls (k + 1) = t ++ x by
                show Wo.sayTo ls k ++ (if 0 < k ∧ Wo.glue (ls.getD (k - 1) []) (ls.getD k []) = true then [32] else []) ++ ls.getD k [] = _
                rw [← HX.out, ← HY.out, ← HT.out, h2, if_neg (by simp)]; simp)
              rw [h2] at q
              clear h2
              go_wp2_with fail
              go_region_held3 (fun w' => w'.cell? ⟨g, o + (k - 1), none⟩ = some (.string (tx y)) ∧ w'.cell? ⟨g, o + k, none⟩ = some (.string (tx x))) (first | (go_keep; done) | exact hcx) (first | (go_at_call 36; refine (q _).mono ?_; rintro e w1 ⟨rfl, hb1⟩; have hcx := two_kept hgr cy ck (undrew hb1)))
              have c1x := hcx.2
              go_wp2
              go_roundw
              case rel => exact ⟨k + 1, by omega, by go_num, by rw [HE0.out, ← tx_app], HL2.out.trans ((undrew hb1).mono HL2.out.size)⟩
              case measure => simp [intOf]; omega
            · have HE0 := hid (show Wo.sayTo ls (k + 1) = (t ++ [32]) ++ x by
                show Wo.sayTo ls k ++ (if 0 < k ∧ Wo.glue (ls.getD (k - 1) []) (ls.getD k []) = true then [32] else []) ++ ls.getD k [] = _
                rw [← HX.out, ← HY.out, ← HT.out, h2, if_pos ⟨hk0, rfl⟩])
              rw [h2] at q
              clear h2
              go_wp2_with fail
              go_region_held3 (fun w' => w'.cell? ⟨g, o + (k - 1), none⟩ = some (.string (tx y)) ∧ w'.cell? ⟨g, o + k, none⟩ = some (.string (tx x))) (first | (go_keep; done) | exact hcx) (first | (go_at_call 36; refine (q _).mono ?_; rintro e w1 ⟨rfl, hb1⟩; have hcx := two_kept hgr cy ck (undrew hb1)))
              have c1x := hcx.2
              go_wp2
              go_roundw
              case rel => exact ⟨k + 1, by omega, by go_num, by rw [HE0.out, ← tx_app, ← tx_app], HL2.out.trans ((undrew hb1).mono HL2.out.size)⟩
              case measure => simp [intOf]; omega
          · have HE0 := hid (show Wo.sayTo ls (k + 1) = t ++ x by
              show Wo.sayTo ls k ++ (if 0 < k ∧ Wo.glue (ls.getD (k - 1) []) (ls.getD k []) = true then [32] else []) ++ ls.getD k [] = _
              rw [← HX.out, ← HT.out, if_neg (by omega)]; simp)
            have hk0I : decide ((0 : Int) < (k : Int)) = false := decide_eq_false (by omega)
            go_wp2
            go_quiet (fail)
            go_wp2
            go_roundw
            case rel => exact ⟨k + 1, by omega, by go_num, by rw [HE0.out, ← tx_app], below_drewN HL2.out⟩
            case measure => simp [intOf]; omega
        · have HS := hid (show Wo.sayTo ls k = Wo.sayL ls by rw [show k = n by omega, HN.out]; exact Wo.sayTo_all ls)
          go_wp2
          go_ret2
          refine ⟨?_, HL2.out⟩
          unfold sayS sayE
          rw [HE.out, if_pos rfl, if_pos rfl, ← HS.out]
          rfl
end Go.Proofs.YtalmcdhohoplpaaDoor
