/-
  Cube: of any text.
-/
import Derived.Test.YtffngpdngjfcfaaBTCube
namespace Go.Proofs.Ytffngpdngjfcfaa
open Go.RowKit Go.Maps
open Bd (Nd)

theorem enter_Cube : ∀ args w, (callFunc 59 args).run Try.prog w = .ok (.enter 59 args) w := fun args w => by kernel_rfl

theorem box2 (w : World) (a b : Obj) : ((w.alloc a).alloc b).heap[w.heap.size]? = some a ∧ ((w.alloc a).alloc b).heap[w.heap.size + 1]? = some b ∧ Below w.heap.size w ((w.alloc a).alloc b) ∧ ((w.alloc a).alloc b).heap.size = w.heap.size + 2 := by
  have e : (w.alloc a).heap.size = w.heap.size + 1 := by simp
  refine ⟨?_, ?_, ((Below.refl _ _).alloc (Nat.le_refl _) _).alloc (by simp) _, by simp⟩
  · rw [heap_alloc_old _ _ (by omega)]; exact heap_alloc_new w _
  · rw [← e]; exact heap_alloc_new _ _

set_option maxHeartbeats 4000000 in
theorem Cube_ok {M : Nat} {w : World} {y : Lay} {s : St} (A : Bd.Fam s.bits M) (hT : Tab w y s) (hW : Bd.Within A s.L) (h2 : 2 ≤ s.first) (hsm : s.roots.length + 1 ≤ 1073741824) (hlim : s.bits * M ≤ s.limit) (t : ByteArray) (ht : t.size = s.bits) (hr : Cu.right t.data.toList = true) (hF : A.F 0 (suf t 0)) :
    Calls Try.prog 25 #[.pointer (some ⟨y.tb, 0, none⟩), .string t] w fun e w' => ∃ r, e = .returned (.tuple #[i6 r, .int .i64 0]) ∧ Told A w y s w' r (suf t 0) := by
  have hmf : ∀ (fn : Fn) (first cap : Array Value) (w : World), (Instr.makeFunc fn first cap).run Try.prog w = .ok (.func fn first cap) w := fun _ _ _ _ => rfl
  have ltb := hT.lt y.own_tb
  obtain ⟨x0, x1, xb, xs⟩ := box2 w (.cells #[.pointer (some ⟨y.tb, 0, none⟩)] 23) (.cells #[.string t] 9)
  have hTa := hT.below xb
  have hck := check_any t ((w.alloc (.cells #[.pointer (some ⟨y.tb, 0, none⟩)] 23)).alloc (.cells #[.string t] 9)).drew
  have e0 : chkE t = 0 := if_pos hr
  rw [e0] at hck
  have HCK : Hid (Calls Try.prog 58 #[.string t] ((w.alloc (.cells #[.pointer (some ⟨y.tb, 0, none⟩)] 23)).alloc (.cells #[.string t] 9)).drew fun e w1 => e = .returned (.int .i64 0) ∧ w1.cell? ⟨w.heap.size, 0, none⟩ = some (.pointer (some ⟨y.tb, 0, none⟩)) ∧ w1.cell? ⟨w.heap.size + 1, 0, none⟩ = some (.string t) ∧ w1.cell? ⟨y.tb, 5, none⟩ = some (.int .i64 s.bits) ∧
      Hid (Calls Try.prog 45 #[.pointer (some ⟨y.tb, 0, none⟩), .slice none 0 0, .func (.func 59) #[] #[.pointer (some ⟨w.heap.size, 0, none⟩), .pointer (some ⟨w.heap.size + 1, 0, none⟩)]] w1 fun e w' => ∃ r, e = .returned (.tuple #[i6 r, .int .i64 0]) ∧ Hid (Told A w y s w' r (suf t 0)))) := by
    refine hck.mono ?_
    rintro e w1 ⟨rfl, hb1⟩
    have hb1' : Below (w.heap.size + 2) ((w.alloc (.cells #[.pointer (some ⟨y.tb, 0, none⟩)] 23)).alloc (.cells #[.string t] 9)) w1 := by
      rw [← xs]; exact ⟨hb1.os, hb1.tape, hb1.output, hb1.size, hb1.block⟩
    have y0 : w1.heap[w.heap.size]? = _ := (hb1'.block _ (by omega)).trans x0
    have y1 : w1.heap[w.heap.size + 1]? = _ := (hb1'.block _ (by omega)).trans x1
    have hbw : Below w.heap.size w w1 := xb.trans (hb1'.mono (by omega))
    have hT1 := hT.below hbw
    refine ⟨rfl, by rw [cell_at y0]; rfl, by rw [cell_at y1]; rfl, by rw [cell_at hT1.cells]; rfl, ?_⟩
    refine (answer_ok A hT1 h2 hsm hlim (.slice none 0 0) [] [] ⟨none, 0, rfl, fun i r h => by simp at h⟩ (by simp) ⟨rfl, fun i r h => by simp at h⟩ 59 enter_Cube #[.pointer (some ⟨w.heap.size, 0, none⟩), .pointer (some ⟨w.heap.size + 1, 0, none⟩)] (suf t 0) ?_).mono ?_
    · intro w2 g hb2 _ _
      have hb2' : Below w1.heap.size w1 w2 := hb2
      have z1 := block_lt y0
      have z2 := block_lt y1
      exact cube_how A (hT1.below hb2') hW hlim w.heap.size t ((hb2'.block _ z1).trans y0) ((hb2'.block _ z2).trans y1) ⟨fun ho => by have := hT.lt ho; omega, fun ho => by have := hT.lt ho; omega⟩ ht hF _
    · rintro e w' ⟨r, rfl, ⟨N, tt, y', m, q1, q2, q3, q4, q5, q6, q7⟩⟩
      exact ⟨r, rfl, N, tt, y', m, q1, q2, q3, q4, q5, (moves_below y hbw).trans q6, q7⟩
  have c5 : ((w.alloc (.cells #[.pointer (some ⟨y.tb, 0, none⟩)] 23)).alloc (.cells #[.string t] 9)).cell? ⟨y.tb, 5, none⟩ = some (.int .i64 s.bits) := by rw [cell_at hTa.cells]; rfl
  have HTA := keep hTa
  have hne : ((t.size : Int) != (s.bits : Int)) = false := by rw [ht]; simp
  clear hT hW h2 hsm hlim hF hr hck hTa x0 x1 xb xs e0 ht
  go_enter Try.func25, Try.ntmps25
  go_wp2_with (first | (go_at_call 57; refine (made_ok HTA.out).mono ?_; rintro e w' ⟨rfl, rfl⟩))
  go_region_held3 (fun w' => w'.cell? ⟨w.heap.size, 0, none⟩ = some (.pointer (some ⟨y.tb, 0, none⟩)) ∧ w'.cell? ⟨w.heap.size + 1, 0, none⟩ = some (.string t) ∧ w'.cell? ⟨y.tb, 5, none⟩ = some (.int .i64 s.bits)) (first | (go_keep; done) | exact ⟨q1, q2, q3⟩) (first | (go_at_call 58; refine HCK.out.mono ?_; rintro e w1 ⟨rfl, q1, q2, q3, HANS⟩))
  go_wp2_with (first | (go_at_call 45; refine HANS.out.mono ?_; rintro e w' ⟨r, rfl, HT⟩))
  go_ret2
  exact ⟨r, rfl, HT.out⟩
end Go.Proofs.Ytffngpdngjfcfaa
