/-
  node: the number of a node, a new one if it is not there yet.
-/
import Derived.Test.YtffngpdngjfcfaaBPut
namespace Go.Proofs.Ytffngpdngjfcfaa
open Go.RowKit Go.Maps
open Bd (Nd)

/-- A step in memory. -/
def StepAt (w : World) (sb tb room kb : Nat) : Prop := w.heap[sb]? = some (.cells #[.pointer (some ⟨tb, 3, none⟩), i6 room, .map (some kb)] 142 (0, 0))

/-- What a call that makes nodes leaves. -/
structure Grew (X : Nat → Prop) {bits M : Nat} (A : Bd.Fam bits M) (w : World) (y : Lay) (s : St) (w' : World) (r : Nat) (f : Bd.Fn) : Prop where
  ex : ∃ N y', Tab w' y' { s with L := s.L ++ N } ∧ Bd.Within A (s.L ++ N) ∧ r < (s.L ++ N).length + 2 ∧ Bd.den (s.L ++ N) r = f ∧ Moves X w y w' y'

theorem Grew.same {X : Nat → Prop} {bits M : Nat} {A : Bd.Fam bits M} {w w' : World} {y : Lay} {s : St} {r : Nat} {f : Bd.Fn} (hT : Tab w y s) (hW : Bd.Within A s.L) (hr : r < s.L.length + 2) (hf : Bd.den s.L r = f) (hb : Below w.heap.size w w') :
    Grew X A w y s w' r f := by
  refine ⟨[], y, ?_, ?_, ?_, ?_, moves_below y hb⟩
  · rw [List.append_nil]; exact hT.below hb
  · rw [List.append_nil]; exact hW
  · rw [List.append_nil]; exact hr
  · rw [List.append_nil]; exact hf

theorem row_one (w : World) (x : Nd) : (w.alloc (.cells #[i6 x.1, i6 x.2.1, i6 x.2.2] 82)).ownsRow 0 82 3 (.slice (some ⟨w.heap.size, 0, none⟩) 1 1) [x].length (flat [x]) :=
  ⟨by simp [flat], Or.inr ⟨w.heap.size, 1, _, rfl, Nat.zero_le _, heap_alloc_new w _, Nat.le_refl _, by unfold maxLen; omega, rfl, by simp [flat]⟩⟩

theorem out_of_grew {X : Nat → Prop} {bits M : Nat} {A : Bd.Fam bits M} {w w' w'' : World} {y : Lay} {s : St} {r : Nat} {f : Bd.Fn} (h : Grew X A w y s w' r f) (hb : Below w'.heap.size w' w'') : Grew X A w y s w'' r f := by
  obtain ⟨N, y', h1, h2, h3, h4, h5⟩ := h.ex
  exact ⟨N, y', h1.below hb, h2, h3, h4, h5.trans (moves_below y' hb)⟩

/-- put, as node calls it. -/
theorem put_new {M : Nat} {w : World} {y : Lay} {s : St} (A : Bd.Fam s.bits M) (hT : Tab w y s) (sb room kb : Nat) (hS : StepAt w sb y.tb room kb) (hns : ¬ y.own sb)
    (k lo hi : Nat) (hok : Bd.Okay s.bits (s.L ++ [(k, lo, hi)])) (hW : Bd.Within A (s.L ++ [(k, lo, hi)])) (hsm : s.L.length + 1 ≤ 1073741824) :
    Calls Try.prog 40 #[.pointer (some ⟨y.tb, 3, none⟩), .slice (some ⟨w.heap.size + 1, 0, none⟩) 1 1] ((w.alloc (.cells #[.int .i64 k, .int .i64 lo, .int .i64 hi] 82)).alloc (.cells #[.int .i64 k, .int .i64 lo, .int .i64 hi] 82)).drew.drew.drew
      fun e w5 => e = .returned (.tuple #[]) ∧ ∃ mb, w5.cell? ⟨sb, 0, none⟩ = some (.pointer (some ⟨y.tb, 3, none⟩)) ∧ w5.cell? ⟨w.heap.size, 0, none⟩ = some (.int .i64 k) ∧ w5.cell? ⟨w.heap.size, 1, none⟩ = some (.int .i64 lo) ∧ w5.cell? ⟨w.heap.size, 2, none⟩ = some (.int .i64 hi) ∧
        w5.cell? ⟨y.tb, 4, none⟩ = some (.map (some mb)) ∧ (Instr.lookup 47 (.map (some mb)) (.agg #[.int .i64 k, .int .i64 lo, .int .i64 hi]) false).run Try.prog w5.drew = .ok (.int .i64 ((s.L.length : Int) + 2)) w5.drew ∧
        Grew noX A w y s w5.drew (s.L.length + 2) (Bd.mux k (Bd.den s.L lo) (Bd.den s.L hi)) := by
  have hB : Below w.heap.size w ((w.alloc (.cells #[.int .i64 k, .int .i64 lo, .int .i64 hi] 82)).alloc (.cells #[.int .i64 k, .int .i64 lo, .int .i64 hi] 82)).drew.drew.drew :=
    ((((Below.refl _ _).alloc (Nat.le_refl _) _).alloc (by simp) _).drew).drew.drew
  have hrow : (((w.alloc (.cells #[.int .i64 k, .int .i64 lo, .int .i64 hi] 82)).alloc (.cells #[.int .i64 k, .int .i64 lo, .int .i64 hi] 82)).drew.drew.drew).ownsRow 0 82 3 (.slice (some ⟨w.heap.size + 1, 0, none⟩) 1 1) [(k, lo, hi)].length (flat [(k, lo, hi)]) := by
    have h := row_one (w.alloc (.cells #[.int .i64 k, .int .i64 lo, .int .i64 hi] 82)) (k, lo, hi)
    have e : (w.alloc (.cells #[.int .i64 k, .int .i64 lo, .int .i64 hi] 82)).heap.size = w.heap.size + 1 := by simp
    rw [e] at h
    exact row_same h fun _ _ => rfl
  have lsb := block_lt hS
  refine (put_any (hT.below hB) [(k, lo, hi)] _ hrow ?_ hok (by simpa using hsm)).mono ?_
  · intro b hb ho
    have := hT.lt ho
    simp [Value.ownBlock] at hb
    omega
  · rintro e w5 ⟨rfl, y5, hT5, hm5⟩
    have h1 := hm5.block w.heap.size (by show w.heap.size < ((w.alloc _).alloc _).heap.size; simp <;> omega) (fun ho => by have := hT.lt ho; omega) (fun h => h)
    have h2 : w5.heap[w.heap.size]? = some (.cells #[.int .i64 k, .int .i64 lo, .int .i64 hi] 82 (0, 0)) := by
      rw [h1]
      show ((w.alloc _).alloc _).heap[w.heap.size]? = _
      rw [heap_alloc_old _ _ (by simp)]
      exact heap_alloc_new w _
    refine ⟨rfl, y5.mb, ?_, ?_, ?_, ?_, ?_, ?_, ?_⟩
    · have h1 := hm5.block sb (by show sb < ((w.alloc _).alloc _).heap.size; simp; omega) hns (fun h => h)
      rw [World.cell?_of_block h1, hB.cell lsb, cell_at hS]; rfl
    · rw [cell_at h2]; rfl
    · rw [cell_at h2]; rfl
    · rw [cell_at h2]; rfl
    · have := hT5.cell4
      rw [hm5.tb] at this
      exact this
    · obtain ⟨f, hf, ha⟩ := hT5.nodes
      have hfit := hok.fit s.L.length (k, lo, hi) (by rw [List.getElem?_append_right (Nat.le_refl _)]; simp)
      have hf128 := hok.few
      obtain ⟨kl, hkl⟩ := key_node (a := k) (b := lo) (c := hi) (by have := hfit.2.2.2.1; simp at this; omega) (by have := hfit.1; simp at this; omega) (by have := hfit.2.1; simp at this; omega)
      have h1 := MapOf.look1 (w := w5.drew) (hf.same rfl) kNode Try.underlying47 Try.underlying3 (zero_int _) hkl
      have h2 : f (.agg #[i6 k, i6 lo, i6 hi]) = some ((s.L.length + 2 : Nat) : Int) := (ha (k, lo, hi)).1 s.L.length (by show (s.L ++ [(k, lo, hi)])[s.L.length]? = _; rw [List.getElem?_append_right (Nat.le_refl _)]; simp)
      rw [h2] at h1
      exact h1
    · refine out_of_grew ⟨[(k, lo, hi)], y5, hT5, hW, ?_, Bd.den_snoc_new _ _, (moves_below y hB).trans hm5⟩ (Below.refl _ _).drew
      simp

set_option maxHeartbeats 2000000 in
theorem node_any {M : Nat} {w : World} {y : Lay} {s : St} (A : Bd.Fam s.bits M) (hT : Tab w y s) (hW : Bd.Within A s.L) (sb room kb : Nat) (hS : StepAt w sb y.tb room kb) (hns : ¬ y.own sb) (hroom : s.bits * M ≤ room) (hr3 : room ≤ 1073741824)
    (k lo hi : Nat) (hk : k < s.bits) (hlo : lo < s.L.length + 2) (hhi : hi < s.L.length + 2) (hlb : k < Bd.bitOf s.L lo) (hhb : k < Bd.bitOf s.L hi) (hF : A.F k (Bd.mux k (Bd.den s.L lo) (Bd.den s.L hi))) :
    Calls Try.prog 86 #[.pointer (some ⟨sb, 0, none⟩), i6 k, i6 lo, i6 hi] w fun e w' => ∃ r, e = .returned (i6 r) ∧ Grew noX A w y s w' r (Bd.mux k (Bd.den s.L lo) (Bd.den s.L hi)) := by
  by_cases hlh : lo = hi
  · subst hlh
    have HR : Hid (Grew noX A w y s w lo (Bd.mux k (Bd.den s.L lo) (Bd.den s.L lo))) := Grew.same hT hW hlo (Bd.mux_same _ _).symm (Below.refl _ _)
    clear hT hW hF hS
    go_enter Try.func86, Try.ntmps86
    go_wp2
    go_ret
    exact ⟨lo, rfl, HR.out⟩
  · have hf128 := hT.okay.few
    have hsm := hT.small.1
    have hneI : ((lo : Int) == (hi : Int)) = false := by rw [beq_eq_false_iff_ne]; omega
    obtain ⟨kl, hkl⟩ := key_node (a := k) (b := lo) (c := hi) (by omega) (by omega) (by omega)
    have s0 : w.cell? ⟨sb, 0, none⟩ = some (.pointer (some ⟨y.tb, 3, none⟩)) := by rw [cell_at hS]; rfl
    have s1 : w.cell? ⟨sb, 1, none⟩ = some (i6 room) := by rw [cell_at hS]; rfl
    have ltb := hT.lt y.own_tb
    have lsb := block_lt hS
    have hTa := hT.below (w' := (w.alloc (.cells #[i6 k, i6 lo, i6 hi] 82))) ((Below.refl _ _).alloc (Nat.le_refl _) _)
    obtain ⟨f, hf, ha⟩ := hTa.nodes
    have hlook := MapOf.look (w := (w.alloc (.cells #[i6 k, i6 lo, i6 hi] 82)).drew) (hf.same rfl) kNode Try.underlying47 Try.underlying3 (zero_int _) hkl
    have c4 := hT.cell4
    simp only [i6] at s1
    by_cases hin : (k, lo, hi) ∈ s.L
    · obtain ⟨i, hi', hx⟩ := List.getElem_of_mem hin
      have hx' : s.L[i]? = some (k, lo, hi) := by rw [List.getElem?_eq_getElem hi', hx]
      have hfx : f (.agg #[i6 k, i6 lo, i6 hi]) = some ((i + 2 : Nat) : Int) := (ha (k, lo, hi)).1 i hx'
      rw [hfx] at hlook
      simp only [Option.getD_some, Option.isSome_some, i6] at hlook
      have HR : Hid (Grew noX A w y s (w.alloc (.cells #[.int .i64 k, .int .i64 lo, .int .i64 hi] 82)).drew (i + 2) (Bd.mux k (Bd.den s.L lo) (Bd.den s.L hi))) :=
        Grew.same hT hW (by omega) (Bd.den_at hT.okay hx') ((Below.refl _ _).alloc (Nat.le_refl _) _).drew
      clear hT hW hF hS hTa hf ha hfx hx hx' hin hkl hi'
      go_enter Try.func86, Try.ntmps86
      go_wp2
      go_region
      go_wp2
      go_ret
      exact ⟨i + 2, rfl, HR.out⟩
    · have hfx : f (.agg #[i6 k, i6 lo, i6 hi]) = none := (ha (k, lo, hi)).2 hin
      rw [hfx] at hlook
      simp only [Option.getD_none, Option.isSome_none, i6] at hlook
      have hok := hT.okay.snoc hin hlo hhi hlh hk hlb hhb
      have hW' : Bd.Within A (s.L ++ [(k, lo, hi)]) := hW.snoc hF
      have hfew := hW'.few hok
      have hlen : s.L.length + 1 ≤ room := by
        have e : (s.L ++ [(k, lo, hi)]).length = s.L.length + 1 := by simp
        omega
      have hls : ∃ ao cap, y.ls = .slice ao s.L.length cap := by
        rcases hT.list.2 with ⟨e, e2⟩ | ⟨g, c, _, e, _⟩
        · exact ⟨none, 0, by rw [e]; rw [e2]⟩
        · exact ⟨_, _, e⟩
      obtain ⟨ao, cap, hls⟩ := hls
      have c3 := hT.cell3
      rw [hls] at c3
      have hnI : ¬ ((room : Int) ≤ (s.L.length : Int)) := by omega
      have c3a : ∀ o, (w.alloc o).cell? ⟨y.tb, 3, none⟩ = some (.slice ao s.L.length cap) := by
        intro o
        rw [World.cell?_of_block (heap_alloc_old w o ltb)]; exact c3
      have s0a : ∀ o, (w.alloc o).cell? ⟨sb, 0, none⟩ = some (.pointer (some ⟨y.tb, 3, none⟩)) := by
        intro o
        rw [World.cell?_of_block (heap_alloc_old w o lsb)]; exact s0
      have HT := keep hT
      have HP := keep (put_new A hT sb room kb hS hns k lo hi hok hW' (by omega))
      clear hT hW hF hS hTa hf ha hfx hin hkl hok hW' hfew hlh
      obtain ⟨len, hlen0⟩ : ∃ len, len = s.L.length := ⟨_, rfl⟩
      have HLEN := keep hlen0
      rw [← hlen0] at c3 c3a hnI hsm hlen hlo hhi
      have hp := HP.out
      rw [← hlen0] at hp
      have HP := keep hp
      clear hp
      clear hlen0
      go_enter Try.func86, Try.ntmps86
      go_wp2
      go_region
      go_wp2
      have hnd : decide (room ≤ len) = false := by simp; omega
      go_region
      go_wp2_with fail
      go_region_held3 (fun w' => w'.cell? ⟨sb, 0, none⟩ = some (.pointer (some ⟨y.tb, 3, none⟩)) ∧ w'.cell? ⟨w.heap.size, 0, none⟩ = some (.int .i64 k) ∧ w'.cell? ⟨w.heap.size, 1, none⟩ = some (.int .i64 lo) ∧ w'.cell? ⟨w.heap.size, 2, none⟩ = some (.int .i64 hi)) (first | (go_keep; done) | exact ⟨q1, q2, q3, q4⟩) (first | (go_at_call 40; refine HP.out.mono ?_; rintro e w5 ⟨rfl, mb, q1, q2, q3, q4, q5, q6, q7⟩))
      have HG := keep q7
      clear q7
      go_wp2
      go_region
      go_wp2
      go_ret
      exact ⟨len + 2, rfl, HG.out⟩
end Go.Proofs.Ytffngpdngjfcfaa
