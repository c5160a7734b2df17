/-
  Meet and Inside of two texts.
-/
import Derived.Test.YtenlmigdlibgeaaMeetW
namespace Go.Proofs.Ytenlmigdlibgeaa
open Go.RowKit
attribute [local go_sem ↓] Go.wp_at_zero Go.wp_at_succ

set_option maxHeartbeats 400000 in
theorem Meet_bad (a b : ByteArray) (w : World) (h : err2 a b ≠ 0) :
    Calls Try.prog 16 #[.string a, .string b] w fun e w' => e = .returned (.tuple #[.string ByteArray.empty, .bool false, .int .i64 (err2 a b)]) ∧ Below w.heap.size w w' := by
  have hne : (err2 a b != 0) = true := by rw [bne_iff_ne]; exact h
  have H : Hid (err2 a b ≠ 0) := h
  clear h
  go_enter Try.func16, Try.ntmps16
  go_wp2_with fail
  refine (read2_bad a b w H.out).mono ?_
  rintro e w1 ⟨rfl, hb1⟩
  go_wp2
  go_ret3
  exact ⟨rfl, hb1⟩

set_option maxHeartbeats 1000000 in
theorem Meet_apart (a b : ByteArray) (w : World) (ha : Cu.right a.data.toList = true) (hb : Cu.right b.data.toList = true) (hs : a.size = b.size) (hm : Cu.meetsB a.data.toList b.data.toList = false) :
    Calls Try.prog 16 #[.string a, .string b] w fun e w' => e = .returned (.tuple #[.string ByteArray.empty, .bool false, .int .i64 0]) ∧ Below w.heap.size w w' := by
  have HA : Hid (Cu.right a.data.toList = true) := ha
  have HB : Hid (Cu.right b.data.toList = true) := hb
  have HS : Hid (a.size = b.size) := hs
  clear ha hb hs
  go_enter Try.func16, Try.ntmps16
  go_wp2_with fail
  refine (read2_ok a b w HA.out HB.out HS.out).mono ?_
  rintro e w1 ⟨rfl, h8, hg, hb1⟩
  have H8 : Hid _ := h8
  obtain ⟨⟨a0, a1, a2, a3⟩, b0, b1, b2, b3⟩ := h8
  go_wp2_with fail
  go_region_held3 (fun w' => (w'.cell? ⟨w.heap.size + 3, 0, none⟩ = some (.int .u64 (Cu.wd (Cu.fixAt a.data.toList) 0 : Int)) ∧ w'.cell? ⟨w.heap.size + 3, 1, none⟩ = some (.int .u64 (Cu.wd (Cu.fixAt a.data.toList) 1 : Int)) ∧ w'.cell? ⟨w.heap.size + 3, 2, none⟩ = some (.int .u64 (Cu.wd (Cu.oneAt a.data.toList) 0 : Int)) ∧ w'.cell? ⟨w.heap.size + 3, 3, none⟩ = some (.int .u64 (Cu.wd (Cu.oneAt a.data.toList) 1 : Int))) ∧ (w'.cell? ⟨w.heap.size + 3, 4, none⟩ = some (.int .u64 (Cu.wd (Cu.fixAt b.data.toList) 0 : Int)) ∧ w'.cell? ⟨w.heap.size + 3, 5, none⟩ = some (.int .u64 (Cu.wd (Cu.fixAt b.data.toList) 1 : Int)) ∧ w'.cell? ⟨w.heap.size + 3, 6, none⟩ = some (.int .u64 (Cu.wd (Cu.oneAt b.data.toList) 0 : Int)) ∧ w'.cell? ⟨w.heap.size + 3, 7, none⟩ = some (.int .u64 (Cu.wd (Cu.oneAt b.data.toList) 1 : Int)))) (first | (go_keep; done) | exact h82) (first | (go_at_call 30; refine (meets_any a.data.toList b.data.toList _ HA.out HB.out HS.out).mono ?_; rintro e w2 ⟨rfl, hb2⟩; have h82 : eight w2 (w.heap.size + 3) a.data.toList b.data.toList := eight_below H8.out (undrew hb2) hg))
  go_wp2
  go_ret3
  exact ⟨rfl, hb1.trans ((undrew hb2).mono hb1.size)⟩

set_option maxHeartbeats 1000000 in
theorem Meet_ok (a b : ByteArray) (w : World) (ha : Cu.right a.data.toList = true) (hb : Cu.right b.data.toList = true) (hs : a.size = b.size) (hm : Cu.meetsB a.data.toList b.data.toList = true) :
    Calls Try.prog 16 #[.string a, .string b] w fun e w' => e = .returned (.tuple #[.string ⟨(Cu.meetL a.data.toList b.data.toList).toArray⟩, .bool true, .int .i64 0]) ∧ Below w.heap.size w w' := by
  have HM : Hid (Cu.meetsB a.data.toList b.data.toList = true) := hm
  have HL : Hid ((Cu.meetL a.data.toList b.data.toList).length = a.size) := Cu.meetL_length hs
  have HR : Hid (Cu.right (Cu.meetL a.data.toList b.data.toList) = true) := Cu.meetL_right ha hb hs
  have HA : Hid (Cu.right a.data.toList = true) := ha
  have HB : Hid (Cu.right b.data.toList = true) := hb
  have HS : Hid (a.size = b.size) := hs
  clear ha hb hs
  go_enter Try.func16, Try.ntmps16
  go_wp2_with fail
  refine (read2_ok a b w HA.out HB.out HS.out).mono ?_
  rintro e w1 ⟨rfl, h8, hg, hb1⟩
  have H8 : Hid _ := h8
  obtain ⟨⟨a0, a1, a2, a3⟩, b0, b1, b2, b3⟩ := h8
  go_wp2_with fail
  go_region_held3 (fun w' => (w'.cell? ⟨w.heap.size + 3, 0, none⟩ = some (.int .u64 (Cu.wd (Cu.fixAt a.data.toList) 0 : Int)) ∧ w'.cell? ⟨w.heap.size + 3, 1, none⟩ = some (.int .u64 (Cu.wd (Cu.fixAt a.data.toList) 1 : Int)) ∧ w'.cell? ⟨w.heap.size + 3, 2, none⟩ = some (.int .u64 (Cu.wd (Cu.oneAt a.data.toList) 0 : Int)) ∧ w'.cell? ⟨w.heap.size + 3, 3, none⟩ = some (.int .u64 (Cu.wd (Cu.oneAt a.data.toList) 1 : Int))) ∧ (w'.cell? ⟨w.heap.size + 3, 4, none⟩ = some (.int .u64 (Cu.wd (Cu.fixAt b.data.toList) 0 : Int)) ∧ w'.cell? ⟨w.heap.size + 3, 5, none⟩ = some (.int .u64 (Cu.wd (Cu.fixAt b.data.toList) 1 : Int)) ∧ w'.cell? ⟨w.heap.size + 3, 6, none⟩ = some (.int .u64 (Cu.wd (Cu.oneAt b.data.toList) 0 : Int)) ∧ w'.cell? ⟨w.heap.size + 3, 7, none⟩ = some (.int .u64 (Cu.wd (Cu.oneAt b.data.toList) 1 : Int)))) (first | (go_keep; done) | exact h82) (first | (go_at_call 30; refine (meets_any a.data.toList b.data.toList _ HA.out HB.out HS.out).mono ?_; rintro e w2 ⟨rfl, hb2⟩; have h82 : eight w2 (w.heap.size + 3) a.data.toList b.data.toList := eight_below H8.out (undrew hb2) hg))
  have H82 : Hid _ := h82
  obtain ⟨⟨c0, c1, c2, c3⟩, d0, d1, d2, d3⟩ := h82
  clear a0 a1 a2 a3 b0 b1 b2 b3
  have hg2 : w.heap.size + 3 < w2.heap.size := Nat.lt_of_lt_of_le hg hb2.size
  go_wp2_with fail
  go_region_held3 (fun w' => (w'.cell? ⟨w.heap.size + 3, 0, none⟩ = some (.int .u64 (Cu.wd (Cu.fixAt a.data.toList) 0 : Int)) ∧ w'.cell? ⟨w.heap.size + 3, 1, none⟩ = some (.int .u64 (Cu.wd (Cu.fixAt a.data.toList) 1 : Int)) ∧ w'.cell? ⟨w.heap.size + 3, 2, none⟩ = some (.int .u64 (Cu.wd (Cu.oneAt a.data.toList) 0 : Int)) ∧ w'.cell? ⟨w.heap.size + 3, 3, none⟩ = some (.int .u64 (Cu.wd (Cu.oneAt a.data.toList) 1 : Int))) ∧ (w'.cell? ⟨w.heap.size + 3, 4, none⟩ = some (.int .u64 (Cu.wd (Cu.fixAt b.data.toList) 0 : Int)) ∧ w'.cell? ⟨w.heap.size + 3, 5, none⟩ = some (.int .u64 (Cu.wd (Cu.fixAt b.data.toList) 1 : Int)) ∧ w'.cell? ⟨w.heap.size + 3, 6, none⟩ = some (.int .u64 (Cu.wd (Cu.oneAt b.data.toList) 0 : Int)) ∧ w'.cell? ⟨w.heap.size + 3, 7, none⟩ = some (.int .u64 (Cu.wd (Cu.oneAt b.data.toList) 1 : Int)))) (first | (go_keep; done) | exact h84 | exact h83) (first | (go_at_call 31; refine (meet_any a.data.toList b.data.toList _ HA.out HB.out HS.out HM.out).mono ?_; rintro e w3 ⟨rfl, hb3⟩; have h83 : eight w3 (w.heap.size + 3) a.data.toList b.data.toList := eight_below H82.out (undrew hb3) hg2) | (go_at_call 32; refine (text_any (Cu.meetL a.data.toList b.data.toList) a.size _ HR.out HL.out).mono ?_; rintro e w4 ⟨rfl, hb4⟩; have h84 : eight w4 (w.heap.size + 3) a.data.toList b.data.toList := eight_below h83 hb4 (Nat.lt_of_lt_of_le hg2 hb3.size)))
  go_wp2
  go_ret3
  exact ⟨rfl, ((hb1.trans ((undrew hb2).mono hb1.size)).trans ((undrew hb3).mono (Nat.le_trans hb1.size hb2.size))).trans (hb4.mono (Nat.le_trans (Nat.le_trans hb1.size hb2.size) hb3.size))⟩
end Go.Proofs.Ytenlmigdlibgeaa
