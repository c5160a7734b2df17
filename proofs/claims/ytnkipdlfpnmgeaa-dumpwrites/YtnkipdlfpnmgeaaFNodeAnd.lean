/-
  ite: the two halves, the node, what is known then.
  ite: the ways that make no node, and what is known already.
  ite: what is known of three numbers; how many can be known.
  node where there is no room.
-/
import Derived.Test.YtnkipdlfpnmgeaaBPutAnd
namespace Go.Proofs.Ytnkipdlfpnmgeaa
open Go.RowKit Go.Maps
open Bd (Nd)

/-- What a call that makes nodes leaves, where there was room. -/
structure GrewL (X : Nat → Prop) {bits M : Nat} (A : Bd.Fam bits M) (w : World) (y : Lay) (s : St) (room : Nat) (w' : World) (r : Nat) (f : Bd.Fn) : Prop where
  ex : ∃ N y', Tab w' y' { s with L := s.L ++ N } ∧ Bd.Within A (s.L ++ N) ∧ r < (s.L ++ N).length + 2 ∧ Bd.den (s.L ++ N) r = f ∧ Moves X w y w' y' ∧ (s.L ++ N).length ≤ max s.L.length room
theorem GrewL.same {X : Nat → Prop} {bits M : Nat} {A : Bd.Fam bits M} {w w' : World} {y : Lay} {s : St} {room r : Nat} {f : Bd.Fn} (hT : Tab w y s) (hW : Bd.Within A s.L) (hr : r < s.L.length + 2) (hf : Bd.den s.L r = f) (hb : Below w.heap.size w w') : GrewL X A w y s room w' r f := by
  refine ⟨[], y, ?_, ?_, ?_, ?_, moves_below y hb, ?_⟩
  · rw [List.append_nil]; exact hT.below hb
  · rw [List.append_nil]; exact hW
  · rw [List.append_nil]; exact hr
  · rw [List.append_nil]; exact hf
  · rw [List.append_nil]; omega
theorem out_of_grewL {X : Nat → Prop} {bits M : Nat} {A : Bd.Fam bits M} {w w' w'' : World} {y : Lay} {s : St} {room r : Nat} {f : Bd.Fn} (h : GrewL X A w y s room w' r f) (hb : Below w'.heap.size w' w'') : GrewL X A w y s room w'' r f := by
  obtain ⟨N, y', h1, h2, h3, h4, h5, h6⟩ := h.ex
  exact ⟨N, y', h1.below hb, h2, h3, h4, h5.trans (moves_below y' hb), h6⟩
/-- What it leaves where there was none: nodes that it made, as many as there may be; and a function of the family has none. -/
structure Full (X : Nat → Prop) {bits M : Nat} (A : Bd.Fam bits M) (w : World) (y : Lay) (s : St) (room : Nat) (w' : World) : Prop where
  ex : ∃ N y', Tab w' y' { s with L := s.L ++ N } ∧ Bd.Within A (s.L ++ N) ∧ Moves X w y w' y' ∧ room ≤ (s.L ++ N).length ∧ ∃ k g, A.F k g ∧ g ≠ Bd.ff ∧ g ≠ Bd.tt ∧ ∀ i, i < (s.L ++ N).length → Bd.den (s.L ++ N) (i + 2) ≠ g

/-- The panic where there is no room. -/
abbrev noRoom : List PanicEntry := [{ v := .iface 30 (.int .i64 20), recovered := false }]

set_option maxHeartbeats 2000000 in
theorem node_full {w : World} {y : Lay} {s : St} (hT : Tab w y s) (sb room kb : Nat) (hS : StepAt w sb y.tb room kb) (_hr3 : room ≤ 1073741824)
    (k lo hi : Nat) (hk : k < s.bits) (hlo : lo < s.L.length + 2) (hhi : hi < s.L.length + 2) (hlh : lo ≠ hi) (hin : (k, lo, hi) ∉ s.L) (hfull : room ≤ s.L.length) :
    Calls Try.prog 74 #[.pointer (some ⟨sb, 0, none⟩), i6 k, i6 lo, i6 hi] w fun e w' => e = .panicked noRoom ∧ Below w.heap.size w w' := by
  have hf128 := hT.okay.few
  have hsm := hT.small.1
  have hneI : ((lo : Int) == (hi : Int)) = false := by rw [beq_eq_false_iff_ne]; omega
  obtain ⟨kl, hkl⟩ := key_node (a := k) (b := lo) (c := hi) (by omega) (by omega) (by omega)
  have s0 : w.cell? ⟨sb, 0, none⟩ = some (.pointer (some ⟨y.tb, 3, none⟩)) := by rw [cell_at hS]; rfl
  have s1 : w.cell? ⟨sb, 1, none⟩ = some (i6 room) := by rw [cell_at hS]; rfl
  have ltb := hT.lt y.own_tb
  have lsb := block_lt hS
  have hTa := hT.below (w' := (w.alloc (.cells #[i6 k, i6 lo, i6 hi] 62))) ((Below.refl _ _).alloc (Nat.le_refl _) _)
  obtain ⟨f, hf, ha⟩ := hTa.nodes
  have hlook := MapOf.look (w := (w.alloc (.cells #[i6 k, i6 lo, i6 hi] 62)).drew) (hf.same rfl) kNode Try.underlying74 Try.underlying3 (zero_int _) hkl
  have c4 := hT.cell4
  simp only [i6] at s1
  have hfx : f (.agg #[i6 k, i6 lo, i6 hi]) = none := (ha (k, lo, hi)).2 hin
  rw [hfx] at hlook
  simp only [Option.getD_none, Option.isSome_none, i6] at hlook
  obtain ⟨ao, cap, hls⟩ : ∃ ao cap, y.ls = .slice ao s.L.length cap := by
    rcases hT.list.2 with ⟨e, e2⟩ | ⟨g, c, _, e, _⟩
    · exact ⟨none, 0, by rw [e]; rw [e2]⟩
    · exact ⟨_, _, e⟩
  have c3 := hT.cell3
  rw [hls] at c3
  obtain ⟨len, hlen0⟩ : ∃ len, len = s.L.length := ⟨_, rfl⟩
  rw [← hlen0] at c3 hsm hlo hhi hfull
  have c3a : ∀ o, (w.alloc o).cell? ⟨y.tb, 3, none⟩ = some (.slice ao len cap) := by
    intro o
    rw [World.cell?_of_block (heap_alloc_old w o ltb)]; exact c3
  have s0a : ∀ o, (w.alloc o).cell? ⟨sb, 0, none⟩ = some (.pointer (some ⟨y.tb, 3, none⟩)) := by
    intro o
    rw [World.cell?_of_block (heap_alloc_old w o lsb)]; exact s0
  have hfI : (room : Int) ≤ (len : Int) := by omega
  clear hT hS hTa hf ha hfx hin hkl hlh hlen0 hls
  go_enter Try.func74, Try.ntmps74
  go_wp2
  go_region
  go_wp2
  have hnd : decide (room ≤ len) = true := by simp; omega
  go_region
  go_wp2
  exact ⟨rfl, rfl, (((Below.refl _ _).alloc (Nat.le_refl _) _).drew).drew⟩
/-- put, as node calls it. -/
theorem put_newL {M : Nat} {w : World} {y : Lay} {s : St} (A : Bd.Fam s.bits M) (hT : Tab w y s) (sb room kb : Nat) (hS : StepAt w sb y.tb room kb) (hns : ¬ y.own sb)
    (k lo hi : Nat) (hok : Bd.Okay s.bits (s.L ++ [(k, lo, hi)])) (hW : Bd.Within A (s.L ++ [(k, lo, hi)])) (hsm : s.L.length + 1 ≤ 1073741824) (hrm : s.L.length + 1 ≤ room) :
    Calls Try.prog 43 #[.pointer (some ⟨y.tb, 3, none⟩), .slice (some ⟨w.heap.size + 1, 0, none⟩) 1 1] ((w.alloc (.cells #[.int .i64 k, .int .i64 lo, .int .i64 hi] 62)).alloc (.cells #[.int .i64 k, .int .i64 lo, .int .i64 hi] 62)).drew.drew.drew
      fun e w5 => e = .returned (.tuple #[]) ∧ ∃ mb, w5.cell? ⟨sb, 0, none⟩ = some (.pointer (some ⟨y.tb, 3, none⟩)) ∧ w5.cell? ⟨w.heap.size, 0, none⟩ = some (.int .i64 k) ∧ w5.cell? ⟨w.heap.size, 1, none⟩ = some (.int .i64 lo) ∧ w5.cell? ⟨w.heap.size, 2, none⟩ = some (.int .i64 hi) ∧
        w5.cell? ⟨y.tb, 4, none⟩ = some (.map (some mb)) ∧ (Instr.lookup 74 (.map (some mb)) (.agg #[.int .i64 k, .int .i64 lo, .int .i64 hi]) false).run Try.prog w5.drew = .ok (.int .i64 ((s.L.length : Int) + 2)) w5.drew ∧
        GrewL noX A w y s room w5.drew (s.L.length + 2) (Bd.mux k (Bd.den s.L lo) (Bd.den s.L hi)) := by
  have hB : Below w.heap.size w ((w.alloc (.cells #[.int .i64 k, .int .i64 lo, .int .i64 hi] 62)).alloc (.cells #[.int .i64 k, .int .i64 lo, .int .i64 hi] 62)).drew.drew.drew :=
    ((((Below.refl _ _).alloc (Nat.le_refl _) _).alloc (by simp) _).drew).drew.drew
  have hrow : (((w.alloc (.cells #[.int .i64 k, .int .i64 lo, .int .i64 hi] 62)).alloc (.cells #[.int .i64 k, .int .i64 lo, .int .i64 hi] 62)).drew.drew.drew).ownsRow 0 62 3 (.slice (some ⟨w.heap.size + 1, 0, none⟩) 1 1) [(k, lo, hi)].length (flat [(k, lo, hi)]) := by
    have h := row_one (w.alloc (.cells #[.int .i64 k, .int .i64 lo, .int .i64 hi] 62)) (k, lo, hi)
    have e : (w.alloc (.cells #[.int .i64 k, .int .i64 lo, .int .i64 hi] 62)).heap.size = w.heap.size + 1 := by simp
    rw [e] at h
    exact row_same h fun _ _ => rfl
  have lsb := block_lt hS
  refine (put_any (hT.below hB) [(k, lo, hi)] _ hrow ?_ hok (by simpa using hsm)).mono ?_
  · intro b hb ho
    have := hT.lt ho
    simp [Value.ownBlock] at hb
    omega
  · rintro e w5 ⟨rfl, y5, hT5, hm5⟩
    have h1 := hm5.block w.heap.size (by show w.heap.size < ((w.alloc _).alloc _).heap.size; simp <;> omega) (fun ho => by have := hT.lt ho; omega) (fun h => h)
    have h2 : w5.heap[w.heap.size]? = some (.cells #[.int .i64 k, .int .i64 lo, .int .i64 hi] 62 (0, 0)) := by
      rw [h1]
      show ((w.alloc _).alloc _).heap[w.heap.size]? = _
      rw [heap_alloc_old _ _ (by simp)]
      exact heap_alloc_new w _
    refine ⟨rfl, y5.mb, ?_, ?_, ?_, ?_, ?_, ?_, ?_⟩
    · have h1 := hm5.block sb (by show sb < ((w.alloc _).alloc _).heap.size; simp; omega) hns (fun h => h)
      rw [World.cell?_of_block h1, hB.cell lsb, cell_at hS]; rfl
    · rw [cell_at h2]; rfl
    · rw [cell_at h2]; rfl
    · rw [cell_at h2]; rfl
    · have := hT5.cell4
      rw [hm5.tb] at this
      exact this
    · obtain ⟨f, hf, ha⟩ := hT5.nodes
      have hfit := hok.fit s.L.length (k, lo, hi) (by rw [List.getElem?_append_right (Nat.le_refl _)]; simp)
      have hf128 := hok.few
      obtain ⟨kl, hkl⟩ := key_node (a := k) (b := lo) (c := hi) (by have := hfit.2.2.2.1; simp at this; omega) (by have := hfit.1; simp at this; omega) (by have := hfit.2.1; simp at this; omega)
      have h1 := MapOf.look1 (w := w5.drew) (hf.same rfl) kNode Try.underlying74 Try.underlying3 (zero_int _) hkl
      have h2 : f (.agg #[i6 k, i6 lo, i6 hi]) = some ((s.L.length + 2 : Nat) : Int) := (ha (k, lo, hi)).1 s.L.length (by show (s.L ++ [(k, lo, hi)])[s.L.length]? = _; rw [List.getElem?_append_right (Nat.le_refl _)]; simp)
      rw [h2] at h1
      exact h1
    · refine out_of_grewL ⟨[(k, lo, hi)], y5, hT5, hW, ?_, Bd.den_snoc_new _ _, (moves_below y hB).trans hm5, ?_⟩ (Below.refl _ _).drew
      · simp
      · rw [List.length_append]; show s.L.length + 1 ≤ _; omega

set_option maxHeartbeats 2000000 in
theorem node_room {M : Nat} {w : World} {y : Lay} {s : St} (A : Bd.Fam s.bits M) (hT : Tab w y s) (hW : Bd.Within A s.L) (sb room kb : Nat) (hS : StepAt w sb y.tb room kb) (hns : ¬ y.own sb) (hr3 : room ≤ 1073741824)
    (k lo hi : Nat) (hk : k < s.bits) (hlo : lo < s.L.length + 2) (hhi : hi < s.L.length + 2) (hlb : k < Bd.bitOf s.L lo) (hhb : k < Bd.bitOf s.L hi) (hF : A.F k (Bd.mux k (Bd.den s.L lo) (Bd.den s.L hi))) (hfit : lo ≠ hi → (k, lo, hi) ∉ s.L → s.L.length + 1 ≤ room) :
    Calls Try.prog 74 #[.pointer (some ⟨sb, 0, none⟩), i6 k, i6 lo, i6 hi] w fun e w' => ∃ r, e = .returned (i6 r) ∧ GrewL noX A w y s room w' r (Bd.mux k (Bd.den s.L lo) (Bd.den s.L hi)) := by
  by_cases hlh : lo = hi
  · subst hlh
    have HR : Hid (GrewL noX A w y s room w lo (Bd.mux k (Bd.den s.L lo) (Bd.den s.L lo))) := GrewL.same hT hW hlo (Bd.mux_same _ _).symm (Below.refl _ _)
    clear hT hW hF hS
    go_enter Try.func74, Try.ntmps74
    go_wp2
    go_ret
    exact ⟨lo, rfl, HR.out⟩
  · have hf128 := hT.okay.few
    have hsm := hT.small.1
    have hneI : ((lo : Int) == (hi : Int)) = false := by rw [beq_eq_false_iff_ne]; omega
    obtain ⟨kl, hkl⟩ := key_node (a := k) (b := lo) (c := hi) (by omega) (by omega) (by omega)
    have s0 : w.cell? ⟨sb, 0, none⟩ = some (.pointer (some ⟨y.tb, 3, none⟩)) := by rw [cell_at hS]; rfl
    have s1 : w.cell? ⟨sb, 1, none⟩ = some (i6 room) := by rw [cell_at hS]; rfl
    have ltb := hT.lt y.own_tb
    have lsb := block_lt hS
    have hTa := hT.below (w' := (w.alloc (.cells #[i6 k, i6 lo, i6 hi] 62))) ((Below.refl _ _).alloc (Nat.le_refl _) _)
    obtain ⟨f, hf, ha⟩ := hTa.nodes
    have hlook := MapOf.look (w := (w.alloc (.cells #[i6 k, i6 lo, i6 hi] 62)).drew) (hf.same rfl) kNode Try.underlying74 Try.underlying3 (zero_int _) hkl
    have c4 := hT.cell4
    simp only [i6] at s1
    by_cases hin : (k, lo, hi) ∈ s.L
    · obtain ⟨i, hi', hx⟩ := List.getElem_of_mem hin
      have hx' : s.L[i]? = some (k, lo, hi) := by rw [List.getElem?_eq_getElem hi', hx]
      have hfx : f (.agg #[i6 k, i6 lo, i6 hi]) = some ((i + 2 : Nat) : Int) := (ha (k, lo, hi)).1 i hx'
      rw [hfx] at hlook
      simp only [Option.getD_some, Option.isSome_some, i6] at hlook
      have HR : Hid (GrewL noX A w y s room (w.alloc (.cells #[.int .i64 k, .int .i64 lo, .int .i64 hi] 62)).drew (i + 2) (Bd.mux k (Bd.den s.L lo) (Bd.den s.L hi))) :=
        GrewL.same hT hW (by omega) (Bd.den_at hT.okay hx') ((Below.refl _ _).alloc (Nat.le_refl _) _).drew
      clear hT hW hF hS hTa hf ha hfx hx hx' hin hkl hi'
      go_enter Try.func74, Try.ntmps74
      go_wp2
      go_region
      go_wp2
      go_ret
      exact ⟨i + 2, rfl, HR.out⟩
    · have hfx : f (.agg #[i6 k, i6 lo, i6 hi]) = none := (ha (k, lo, hi)).2 hin
      rw [hfx] at hlook
      simp only [Option.getD_none, Option.isSome_none, i6] at hlook
      have hok := hT.okay.snoc hin hlo hhi hlh hk hlb hhb
      have hW' : Bd.Within A (s.L ++ [(k, lo, hi)]) := hW.snoc hF
      have hfew := hW'.few hok
      have hlen : s.L.length + 1 ≤ room := hfit hlh hin
      have hls : ∃ ao cap, y.ls = .slice ao s.L.length cap := by
        rcases hT.list.2 with ⟨e, e2⟩ | ⟨g, c, _, e, _⟩
        · exact ⟨none, 0, by rw [e]; rw [e2]⟩
        · exact ⟨_, _, e⟩
      obtain ⟨ao, cap, hls⟩ := hls
      have c3 := hT.cell3
      rw [hls] at c3
      have hnI : ¬ ((room : Int) ≤ (s.L.length : Int)) := by omega
      have c3a : ∀ o, (w.alloc o).cell? ⟨y.tb, 3, none⟩ = some (.slice ao s.L.length cap) := by
        intro o
        rw [World.cell?_of_block (heap_alloc_old w o ltb)]; exact c3
      have s0a : ∀ o, (w.alloc o).cell? ⟨sb, 0, none⟩ = some (.pointer (some ⟨y.tb, 3, none⟩)) := by
        intro o
        rw [World.cell?_of_block (heap_alloc_old w o lsb)]; exact s0
      have HT := keep hT
      have HP := keep (put_newL A hT sb room kb hS hns k lo hi hok hW' (by omega) hlen)
      clear hT hW hF hS hTa hf ha hfx hin hkl hok hW' hfew hlh
      obtain ⟨len, hlen0⟩ : ∃ len, len = s.L.length := ⟨_, rfl⟩
      have HLEN := keep hlen0
      rw [← hlen0] at c3 c3a hnI hsm hlen hlo hhi
      have hp := HP.out
      rw [← hlen0] at hp
      have HP := keep hp
      clear hp
      clear hlen0
      go_enter Try.func74, Try.ntmps74
      go_wp2
      go_region
      go_wp2
      have hnd : decide (room ≤ len) = false := by simp; omega
      go_region
      go_wp2_with fail
      go_region_held3 (fun w' => w'.cell? ⟨sb, 0, none⟩ = some (.pointer (some ⟨y.tb, 3, none⟩)) ∧ w'.cell? ⟨w.heap.size, 0, none⟩ = some (.int .i64 k) ∧ w'.cell? ⟨w.heap.size, 1, none⟩ = some (.int .i64 lo) ∧ w'.cell? ⟨w.heap.size, 2, none⟩ = some (.int .i64 hi)) (first | (go_keep; done) | exact ⟨q1, q2, q3, q4⟩) (first | (go_at_call 43; refine HP.out.mono ?_; rintro e w5 ⟨rfl, mb, q1, q2, q3, q4, q5, q6, q7⟩))
      have HG := keep q7
      clear q7
      go_wp2
      go_region
      go_wp2
      go_ret
      exact ⟨len + 2, rfl, HG.out⟩

/-- node: a number, or no room. -/
theorem node_two {M : Nat} {w : World} {y : Lay} {s : St} (A : Bd.Fam s.bits M) (hT : Tab w y s) (hW : Bd.Within A s.L) (sb room kb : Nat) (hS : StepAt w sb y.tb room kb) (hns : ¬ y.own sb) (hr3 : room ≤ 1073741824)
    (k lo hi : Nat) (hk : k < s.bits) (hlo : lo < s.L.length + 2) (hhi : hi < s.L.length + 2) (hlb : k < Bd.bitOf s.L lo) (hhb : k < Bd.bitOf s.L hi) (hF : A.F k (Bd.mux k (Bd.den s.L lo) (Bd.den s.L hi))) :
    Calls Try.prog 74 #[.pointer (some ⟨sb, 0, none⟩), i6 k, i6 lo, i6 hi] w fun e w' => (∃ r, e = .returned (i6 r) ∧ GrewL noX A w y s room w' r (Bd.mux k (Bd.den s.L lo) (Bd.den s.L hi))) ∨ (e = .panicked noRoom ∧ Full noX A w y s room w') := by
  by_cases h : lo ≠ hi ∧ (k, lo, hi) ∉ s.L ∧ room ≤ s.L.length
  · obtain ⟨h1, h2, h3⟩ := h
    refine (node_full hT sb room kb hS hr3 k lo hi hk hlo hhi h1 h2 h3).mono ?_
    rintro e w' ⟨rfl, hb⟩
    refine Or.inr ⟨rfl, [], y, by rw [List.append_nil]; exact hT.below hb, by rw [List.append_nil]; exact hW, moves_below y hb, by rw [List.append_nil]; exact h3, k, _, hF, ?_⟩
    have hok := hT.okay.snoc h2 hlo hhi h1 hk hlb hhb
    have hnew := Bd.den_snoc_new s.L (k, lo, hi)
    have hlen : (s.L ++ [(k, lo, hi)]).length = s.L.length + 1 := by simp
    have old : ∀ m, m < s.L.length + 2 → Bd.den s.L m ≠ Bd.mux k (Bd.den s.L lo) (Bd.den s.L hi) := fun m hm e => by
      have := Bd.canon hok (n := m) (m := s.L.length + 2) (by omega) (by omega) (by rw [Bd.den_append_old _ _ hm, hnew]; exact e)
      omega
    refine ⟨fun e => old 0 (by omega) (by rw [Bd.den_zero]; exact e.symm), fun e => old 1 (by omega) (by rw [Bd.den_one]; exact e.symm), fun i hi' => ?_⟩
    rw [List.append_nil] at hi' ⊢
    exact old (i + 2) (by omega)
  · refine (node_room A hT hW sb room kb hS hns hr3 k lo hi hk hlo hhi hlb hhb hF (fun h1 h2 => ?_)).mono fun e w' h => Or.inl h
    rcases Nat.lt_or_ge s.L.length room with h3 | h3
    · omega
    · exact absurd ⟨h1, h2, h3⟩ h
end Go.Proofs.Ytnkipdlfpnmgeaa
namespace Go.Proofs.Ytnkipdlfpnmgeaa
open Go.RowKit Go.Maps
open Bd (Nd)

def arV (a b c : Nat) : Value := .agg #[i6 a, i6 b, i6 c]
theorem arV_inj {a b c a' b' c' : Nat} (h : arV a b c = arV a' b' c') : a = a' ∧ b = b' ∧ c = c' := by
  simp [arV] at h
  omega

/-- What stands under three numbers is the number of the one where another holds, else the third. -/
def KnownOk (L : List Nd) (f : Value → Option Int) : Prop := ∀ key kl v, keyOf Try.prog 99 key = some kl → f key = some v → ∃ a b c r : Nat, key = arV a b c ∧ v = (r : Int) ∧
  a < L.length + 2 ∧ b < L.length + 2 ∧ c < L.length + 2 ∧ r < L.length + 2 ∧ Bd.den L r = Bd.iteF (Bd.den L a) (Bd.den L b) (Bd.den L c)

theorem KnownOk.grow {L : List Nd} {f : Value → Option Int} (h : KnownOk L f) (N : List Nd) : KnownOk (L ++ N) f := by
  intro key kl v hk hv
  obtain ⟨a, b, c, r, h1, h2, h3, h4, h5, h6, h7⟩ := h key kl v hk hv
  have e : (L ++ N).length = L.length + N.length := List.length_append
  refine ⟨a, b, c, r, h1, h2, by omega, by omega, by omega, by omega, ?_⟩
  rw [Bd.den_append_old _ _ h6, Bd.den_append_old _ _ h3, Bd.den_append_old _ _ h4, Bd.den_append_old _ _ h5]
  exact h7
theorem KnownOk.put {L : List Nd} {f f' : Value → Option Int} (h : KnownOk L f) {a b c r : Nat} (ha : a < L.length + 2) (hb : b < L.length + 2) (hc : c < L.length + 2) (hr : r < L.length + 2) (hd : Bd.den L r = Bd.iteF (Bd.den L a) (Bd.den L b) (Bd.den L c))
    (hu : Upd f (arV a b c) (some (r : Int)) f') : KnownOk L f' := by
  intro key kl v hk hv
  by_cases e : key = arV a b c
  · subst e
    rw [hu.1] at hv
    cases hv
    exact ⟨a, b, c, r, rfl, rfl, ha, hb, hc, hr, hd⟩
  · rw [hu.2 _ e] at hv
    exact h key kl v hk hv

theorem any_sorted (p : Lit × DataW Unit → Bool) : ∀ l : List (Lit × DataW Unit), (l.foldr DataW.insert []).any p = l.any p
  | [] => rfl
  | x :: r => by rw [List.foldr_cons, Maps.any_insert, any_sorted p r, List.any_cons]

/-- A map has no more entries than there are numbers for its keys. -/
theorem MapOf.few {P : Program} {k e : TypeId} {w : World} {b sz : Nat} {f : Value → Option Int} (h : MapOf P k e w b sz f) (K : Keyed P k) (g : Value → Nat) (B : Nat)
    (hg : ∀ key kl, keyOf P k key = some kl → (f key).isSome = true → g key < B) (hi : ∀ key key' kl kl', keyOf P k key = some kl → keyOf P k key' = some kl' → (f key).isSome = true → (f key').isSome = true → g key = g key' → key = key') : sz ≤ B := by
  obtain ⟨D, ⟨es, clock, hb, F, hs, hD⟩, h2, h3⟩ := h
  have hsz : sz = es.toList.length := by rw [← h2, hD]; simp [Maps.size, length_sorted]
  have hkey : ∀ x ∈ es.toList, ∃ kl, keyOf P k x.key = some kl ∧ (f x.key).isSome = true := by
    intro x hx
    obtain ⟨y, hy⟩ := F.reads x hx
    have hk := WideElems.rd_key hy
    refine ⟨y.1, hk, ?_⟩
    rw [← (h3 _ _ hk).1, hD, Maps.has_eq, any_sorted, List.any_eq_true]
    refine ⟨WideElems.rg P k (plainElem P e) x, List.mem_map.2 ⟨x, hx, rfl⟩, ?_⟩
    rw [WideElems.rg_of hy]
    exact WideAt.sameKey_self (K.key hk)
  have hn : es.toList.Pairwise (fun x y => x.key ≠ y.key) := ((MapKept.stamped_iff es clock).1 F.stamped).2.2
  rw [hsz]
  refine Bd.pigeon B es.toList.length (fun i => g ((es.toList.getD i ⟨.bool false, .bool false, 0⟩).key)) ?_ ?_
  · intro i hi
    show g ((es.toList.getD i _).key) < B
    rw [List.getD_eq_getElem?_getD, List.getElem?_eq_getElem hi]
    obtain ⟨kl, h1, h2⟩ := hkey es.toList[i] (List.getElem_mem hi)
    exact hg _ _ h1 h2
  · intro i j hil hjl hij
    have hij' : g ((es.toList.getD i ⟨.bool false, .bool false, 0⟩).key) = g ((es.toList.getD j ⟨.bool false, .bool false, 0⟩).key) := hij
    rw [List.getD_eq_getElem?_getD, List.getElem?_eq_getElem hil, List.getD_eq_getElem?_getD, List.getElem?_eq_getElem hjl] at hij'
    obtain ⟨kl, h1, h2⟩ := hkey es.toList[i] (List.getElem_mem hil)
    obtain ⟨kl', h1', h2'⟩ := hkey es.toList[j] (List.getElem_mem hjl)
    have hsame := hi _ _ _ _ h1 h1' h2 h2' hij'
    rcases Nat.lt_trichotomy i j with h | h | h
    · exact absurd hsame (List.pairwise_iff_getElem.1 hn i j hil hjl h)
    · exact h
    · exact absurd hsame.symm (List.pairwise_iff_getElem.1 hn j i hjl hil h)

/-- A number for three. -/
def arN (B : Nat) : Value → Nat
  | .agg cs => (match cs.toList with | [.int _ a, .int _ b, .int _ c] => (a.toNat * B + b.toNat) * B + c.toNat | _ => 0)
  | _ => 0
theorem arN_arV (B a b c : Nat) : arN B (arV a b c) = (a * B + b) * B + c := by simp [arN, arV]

/-- How much can be known. -/
theorem known_few {w : World} {kb sz : Nat} {f : Value → Option Int} {L : List Nd} (h : MapOf Try.prog 99 3 w kb sz f) (hK : KnownOk L f) (hL : L.length ≤ 1048576) : sz < maxLen := by
  have := h.few kArr (arN (L.length + 2)) ((L.length + 2) * (L.length + 2) * (L.length + 2)) ?_ ?_
  · have h1 : (L.length + 2) * (L.length + 2) * (L.length + 2) ≤ 1048578 * 1048578 * 1048578 := Nat.mul_le_mul (Nat.mul_le_mul (by omega) (by omega)) (by omega)
    unfold maxLen
    omega
  · intro key kl hk hs
    obtain ⟨v, hv⟩ := Option.isSome_iff_exists.1 hs
    obtain ⟨a, b, c, r, rfl, rfl, h1, h2, h3, _⟩ := hK key kl v hk hv
    rw [arN_arV]
    have e1 : (a + 1) * (L.length + 2) ≤ (L.length + 2) * (L.length + 2) := Nat.mul_le_mul_right _ h1
    rw [Nat.add_mul] at e1
    have e2 : (a * (L.length + 2) + b + 1) * (L.length + 2) ≤ (L.length + 2) * (L.length + 2) * (L.length + 2) := Nat.mul_le_mul_right _ (by omega)
    rw [Nat.add_mul] at e2
    omega
  · intro key key' kl kl' hk hk' hs hs' he
    obtain ⟨v, hv⟩ := Option.isSome_iff_exists.1 hs
    obtain ⟨v', hv'⟩ := Option.isSome_iff_exists.1 hs'
    obtain ⟨a, b, c, r, rfl, rfl, h1, h2, h3, _⟩ := hK key kl v hk hv
    obtain ⟨a', b', c', r', rfl, rfl, h1', h2', h3', _⟩ := hK key' kl' v' hk' hv'
    rw [arN_arV, arN_arV] at he
    obtain ⟨e1, e2⟩ := Bd.mul_add_inj h3 h3' he
    obtain ⟨e3, e4⟩ := Bd.mul_add_inj h2 h2' e1
    rw [e2, e3, e4]
end Go.Proofs.Ytnkipdlfpnmgeaa
namespace Go.Proofs.Ytnkipdlfpnmgeaa
open Go.RowKit Go.Maps
open Bd (Nd)

theorem boxed (w : World) (o : Obj) : Below w.heap.size w (w.alloc o).drew := ((Below.refl _ _).alloc (Nat.le_refl _) _).drew
theorem boxedN (w : World) (o : Obj) (n : Nat) : Below w.heap.size w ((w.alloc o).drewN n) := by
  have h := (Below.refl w.heap.size w).alloc (Nat.le_refl _) o
  exact ⟨h.os, h.tape, h.output, h.size, h.block⟩
theorem boxed2 (w : World) (o : Obj) : Below w.heap.size w (w.alloc o).drew.drew := ((Below.refl _ _).alloc (Nat.le_refl _) _).drew.drew
theorem int_ne {a b : Nat} (h : a ≠ b) : ((a : Int) == (b : Int)) = false := by rw [beq_eq_false_iff_ne]; omega
theorem int_eq {a b : Nat} (h : a = b) : ((a : Int) == (b : Int)) = true := by rw [h]; simp

set_option maxHeartbeats 1000000 in
theorem ite_one (w : World) (p : Value) (b c : Nat) :
    Calls Try.prog 76 #[p, .agg #[i6 1, i6 b, i6 c]] w fun e w' => e = .returned (i6 b) ∧ Below w.heap.size w w' := by
  go_enter Try.func76, Try.ntmps76
  go_wp2_with fail
  go_quiet (fail)
  go_wp2_with fail
  go_ret
  exact ⟨rfl, boxedN _ _ _⟩

set_option maxHeartbeats 1000000 in
theorem ite_same (w : World) (p : Value) (a b : Nat) (ha : a ≠ 1) :
    Calls Try.prog 76 #[p, .agg #[i6 a, i6 b, i6 b]] w fun e w' => e = .returned (i6 b) ∧ Below w.heap.size w w' := by
  have h1 : ((a : Int) == 1) = false := int_ne ha
  go_enter Try.func76, Try.ntmps76
  go_wp2_with fail
  go_quiet (fail)
  go_wp2_with fail
  go_ret
  exact ⟨rfl, boxedN _ _ _⟩

set_option maxHeartbeats 1000000 in
theorem ite_zero (w : World) (p : Value) (b c : Nat) (hbc : b ≠ c) :
    Calls Try.prog 76 #[p, .agg #[i6 0, i6 b, i6 c]] w fun e w' => e = .returned (i6 c) ∧ Below w.heap.size w w' := by
  have h1 := int_ne hbc
  go_enter Try.func76, Try.ntmps76
  go_wp2_with fail
  go_quiet (fail)
  go_wp2_with fail
  go_ret
  exact ⟨rfl, boxedN _ _ _⟩

set_option maxHeartbeats 1000000 in
theorem ite_self (w : World) (p : Value) (a : Nat) (ha : a ≠ 1) (ha0 : a ≠ 0) :
    Calls Try.prog 76 #[p, .agg #[i6 a, i6 1, i6 0]] w fun e w' => e = .returned (i6 a) ∧ Below w.heap.size w w' := by
  have h1 : ((a : Int) == 1) = false := int_ne ha
  have h0 : ((a : Int) == 0) = false := int_ne ha0
  go_enter Try.func76, Try.ntmps76
  go_wp2_with fail
  go_quiet (fail)
  go_wp2_with fail
  go_ret
  exact ⟨rfl, boxedN _ _ _⟩

/-- What ite leaves. -/
structure IteGot {bits M : Nat} (A : Bd.Fam bits M) (w : World) (y : Lay) (s : St) (kb : Nat) (w' : World) (r : Nat) (f : Bd.Fn) : Prop where
  ex : ∃ N y', Tab w' y' { s with L := s.L ++ N } ∧ Bd.Within A (s.L ++ N) ∧ r < (s.L ++ N).length + 2 ∧ Bd.den (s.L ++ N) r = f ∧ Moves (fun k => k = kb) w y w' y' ∧
    ∃ sz kf, MapOf Try.prog 99 3 w' kb sz kf ∧ KnownOk (s.L ++ N) kf

theorem IteGot.same {bits M : Nat} {A : Bd.Fam bits M} {w w' : World} {y : Lay} {s : St} {kb r : Nat} {f : Bd.Fn} (hT : Tab w y s) (hW : Bd.Within A s.L) {sz : Nat} {kf : Value → Option Int} (hM : MapOf Try.prog 99 3 w kb sz kf) (hK : KnownOk s.L kf)
    (hr : r < s.L.length + 2) (hf : Bd.den s.L r = f) (hb : Below w.heap.size w w') : IteGot A w y s kb w' r f := by
  refine ⟨[], y, ?_, ?_, ?_, ?_, moves_below y hb, sz, kf, hM.same (hb.block _ hM.lt), ?_⟩
  · rw [List.append_nil]; exact hT.below hb
  · rw [List.append_nil]; exact hW
  · rw [List.append_nil]; exact hr
  · rw [List.append_nil]; exact hf
  · rw [List.append_nil]; exact hK

set_option maxHeartbeats 2000000 in
theorem ite_hit {M : Nat} {w : World} {y : Lay} {s : St} (A : Bd.Fam s.bits M) (hT : Tab w y s) (hW : Bd.Within A s.L) (sb room kb : Nat) (hS : StepAt w sb y.tb room kb) (sz : Nat) (kf : Value → Option Int) (hM : MapOf Try.prog 99 3 w kb sz kf) (hK : KnownOk s.L kf)
    (a b c : Nat) (ha : a < s.L.length + 2) (hb : b < s.L.length + 2) (hc : c < s.L.length + 2) (ha2 : 2 ≤ a) (hbc : b ≠ c) (hq : ¬ (b = 1 ∧ c = 0)) (v : Int) (hv : kf (arV a b c) = some v) :
    Calls Try.prog 76 #[.pointer (some ⟨sb, 0, none⟩), .agg #[i6 a, i6 b, i6 c]] w fun e w' => ∃ r, e = .returned (i6 r) ∧ IteGot A w y s kb w' r (Bd.iteF (Bd.den s.L a) (Bd.den s.L b) (Bd.den s.L c)) := by
  have hsm := hT.small.1
  obtain ⟨kl, hkl⟩ := key_arr (a := a) (b := b) (c := c) (by omega) (by omega) (by omega)
  obtain ⟨a', b', c', r, e1, rfl, h1, h2, h3, h4, h5⟩ := hK _ kl v hkl hv
  obtain ⟨rfl, rfl, rfl⟩ := arV_inj e1
  have HR : Hid (∀ w', Below w.heap.size w w' → IteGot A w y s kb w' r (Bd.iteF (Bd.den s.L a) (Bd.den s.L b) (Bd.den s.L c))) := fun w' hb => IteGot.same hT hW hM hK h4 h5 hb
  have hlook : ∀ n o, (Instr.lookup 131 (.map (some kb)) (.agg #[.int .i64 a, .int .i64 b, .int .i64 c]) true).run Try.prog ((w.alloc o).drewN n) = .ok (.tuple #[.int .i64 r, .bool true]) ((w.alloc o).drewN n) := by
    intro n o
    have := MapOf.look (w := (w.alloc o).drewN n) (hM.same ((boxedN w o n).block _ hM.lt)) kArr Try.underlying131 Try.underlying3 (zero_int _) hkl
    have hv' : kf (.agg #[i6 a, i6 b, i6 c]) = some (r : Int) := hv
    rw [hv'] at this
    exact this
  have s2 : ∀ n o, ((w.alloc o).drewN n).cell? ⟨sb, 2, none⟩ = some (.map (some kb)) := by
    intro n o
    have h1 : ((w.alloc o).drewN n).heap[sb]? = w.heap[sb]? := (boxedN w o n).block sb (block_lt hS)
    rw [World.cell?_of_block h1, cell_at hS]; rfl
  have a1 : ((a : Int) == 1) = false := int_ne (b := 1) (by omega)
  have a0 : ((a : Int) == 0) = false := int_ne (b := 0) (by omega)
  have bc := int_ne hbc
  clear hT hW hM hK hS hv h1 h2 h3 h4 h5 e1 hkl ha hb hc
  by_cases hb1 : b = 1
  · have hc0 : ((c : Int) == 0) = false := int_ne (b := 0) (fun e => hq ⟨hb1, e⟩)
    have hb1' : ((b : Int) == 1) = true := int_eq (b := 1) hb1
    clear hq hb1 hbc
    go_enter Try.func76, Try.ntmps76
    go_wp2_with fail
    go_quiet (fail)
    go_wp2_with fail
    go_quiet (fail)
    go_wp2_with fail
    go_ret
    exact ⟨r, rfl, HR.out _ (by first | exact boxedN _ _ _ | (rw [World.drewN_drewN]; exact boxedN _ _ _))⟩
  · have hb1' : ((b : Int) == 1) = false := int_ne (b := 1) hb1
    clear hq hb1 hbc
    go_enter Try.func76, Try.ntmps76
    go_wp2_with fail
    go_quiet (fail)
    go_wp2_with fail
    go_quiet (fail)
    go_wp2_with fail
    go_ret
    exact ⟨r, rfl, HR.out _ (by first | exact boxedN _ _ _ | (rw [World.drewN_drewN]; exact boxedN _ _ _))⟩
end Go.Proofs.Ytnkipdlfpnmgeaa
namespace Go.Proofs.Ytnkipdlfpnmgeaa
open Go.RowKit Go.Maps
open Bd (Nd)

theorem Moves.not_own {X : Nat → Prop} {w w' : World} {y y' : Lay} (h : Moves X w y w' y') {k : Nat} (hk : k < w.heap.size) (hn : ¬ y.own k) : ¬ y'.own k := by
  intro ho
  rcases h.own k ho with h1 | h1
  · exact hn h1
  · omega

def iteSpec (n : Nat) : Prop := ∀ {M : Nat} (s : St) (A : Bd.Fam s.bits M) (w : World) (y : Lay) (sb room kb sz : Nat) (kf : Value → Option Int) (a b c kk : Nat), Tab w y s → Bd.Within A s.L → StepAt w sb y.tb room kb → ¬ y.own sb → ¬ y.own kb →
  s.bits * M ≤ room → room ≤ 1073741824 → s.bits * M ≤ 1048576 → MapOf Try.prog 99 3 w kb sz kf → KnownOk s.L kf → a < s.L.length + 2 → b < s.L.length + 2 → c < s.L.length + 2 →
  kk ≤ Bd.bitOf s.L a → kk ≤ Bd.bitOf s.L b → kk ≤ Bd.bitOf s.L c → A.F kk (Bd.iteF (Bd.den s.L a) (Bd.den s.L b) (Bd.den s.L c)) → 128 - kk ≤ n →
  Calls Try.prog 76 #[.pointer (some ⟨sb, 0, none⟩), .agg #[i6 a, i6 b, i6 c]] w fun e w' => ∃ r, e = .returned (i6 r) ∧ IteGot A w y s kb w' r (Bd.iteF (Bd.den s.L a) (Bd.den s.L b) (Bd.den s.L c))

/-- The blocks that a call of ite lays for its own use. -/
structure Three (w : World) (B : Nat) (x0 x1 x2 : Value × Value × Value) : Prop where
  b0 : w.heap[B]? = some (.cells #[x0.1, x0.2.1, x0.2.2] 99 (0, 0))
  b1 : w.heap[B + 1]? = some (.cells #[x1.1, x1.2.1, x1.2.2] 99 (0, 0))
  b2 : w.heap[B + 1 + 1]? = some (.cells #[x2.1, x2.2.1, x2.2.2] 99 (0, 0))

theorem Three.moves {w w' : World} {B : Nat} {x0 x1 x2 : Value × Value × Value} (h : Three w B x0 x1 x2) {X : Nat → Prop} {y y' : Lay} (hm : Moves X w y w' y') (hy : ∀ k, y.own k → k < B ∨ B + 3 ≤ k) (hX : ∀ k, X k → k < B) : Three w' B x0 x1 x2 := by
  have l0 := block_lt h.b0
  have l1 := block_lt h.b1
  have l2 := block_lt h.b2
  have key : ∀ j, j < 3 → w'.heap[B + j]? = w.heap[B + j]? := by
    intro j hj
    refine hm.block _ ?_ (fun ho => ?_) (fun hx => ?_)
    · have : j = 0 ∨ j = 1 ∨ j = 2 := by omega
      rcases this with rfl | rfl | rfl <;> omega
    · rcases hy _ ho with h | h <;> omega
    · have := hX _ hx; omega
  exact ⟨(key 0 (by omega)).trans h.b0, (key 1 (by omega)).trans h.b1, (key 2 (by omega)).trans h.b2⟩
theorem own_between {_w0 w w' : World} {X : Nat → Prop} {y y' : Lay} (hm : Moves X w y w' y') {B : Nat} (hB : B + 3 ≤ w.heap.size) (hy : ∀ k, y.own k → k < B ∨ B + 3 ≤ k) : ∀ k, y'.own k → k < B ∨ B + 3 ≤ k := by
  intro k hk
  rcases hm.own k hk with h | h
  · exact hy k h
  · exact Or.inr (by omega)

abbrev v3 (a b c : Nat) : Value × Value × Value := (i6 a, i6 b, i6 c)

theorem ite_three {n M : Nat} (ih : iteSpec n) {w : World} {y : Lay} {s : St} (A : Bd.Fam s.bits M) (hT : Tab w y s) (hW : Bd.Within A s.L) (sb room kb : Nat) (hS : StepAt w sb y.tb room kb) (hns : ¬ y.own sb) (hnk : ¬ y.own kb) (hroom : s.bits * M ≤ room) (hr3 : room ≤ 1073741824) (hbM : s.bits * M ≤ 1048576)
    (sz : Nat) (kf : Value → Option Int) (hM : MapOf Try.prog 99 3 w kb sz kf) (hK : KnownOk s.L kf) (a b c kk k : Nat) (ha : a < s.L.length + 2) (hb : b < s.L.length + 2) (hc : c < s.L.length + 2)
    (hkk : kk ≤ k) (hka : k ≤ Bd.bitOf s.L a) (hkb : k ≤ Bd.bitOf s.L b) (hkc : k ≤ Bd.bitOf s.L c) (hkbits : k < s.bits) (hF : A.F kk (Bd.iteF (Bd.den s.L a) (Bd.den s.L b) (Bd.den s.L c))) (hn : 128 - kk ≤ n + 1)
    (W : World) (hBW : Below w.heap.size w W) (h3 : Three W w.heap.size (v3 a b c) (v3 (Bd.loOf s.L a k) (Bd.loOf s.L b k) (Bd.loOf s.L c k)) (v3 (Bd.hiOf s.L a k) (Bd.hiOf s.L b k) (Bd.hiOf s.L c k))) :
    Calls Try.prog 76 #[.pointer (some ⟨sb, 0, none⟩), .agg #[i6 (Bd.loOf s.L a k), i6 (Bd.loOf s.L b k), i6 (Bd.loOf s.L c k)]] W fun e w1 => ∃ r1, e = .returned (i6 r1) ∧ Three w1 w.heap.size (v3 a b c) (v3 (Bd.loOf s.L a k) (Bd.loOf s.L b k) (Bd.loOf s.L c k)) (v3 (Bd.hiOf s.L a k) (Bd.hiOf s.L b k) (Bd.hiOf s.L c k)) ∧
      Hid (Calls Try.prog 76 #[.pointer (some ⟨sb, 0, none⟩), .agg #[i6 (Bd.hiOf s.L a k), i6 (Bd.hiOf s.L b k), i6 (Bd.hiOf s.L c k)]] w1 fun e w2 => ∃ r2, e = .returned (i6 r2) ∧ Three w2 w.heap.size (v3 a b c) (v3 (Bd.loOf s.L a k) (Bd.loOf s.L b k) (Bd.loOf s.L c k)) (v3 (Bd.hiOf s.L a k) (Bd.hiOf s.L b k) (Bd.hiOf s.L c k)) ∧
        Hid (Calls Try.prog 74 #[.pointer (some ⟨sb, 0, none⟩), i6 k, i6 r1, i6 r2] w2 fun e w3 => ∃ r, e = .returned (i6 r) ∧ Three w3 w.heap.size (v3 a b c) (v3 (Bd.loOf s.L a k) (Bd.loOf s.L b k) (Bd.loOf s.L c k)) (v3 (Bd.hiOf s.L a k) (Bd.hiOf s.L b k) (Bd.hiOf s.L c k)) ∧
          w3.cell? ⟨sb, 2, none⟩ = some (.map (some kb)) ∧ ∃ w4, (Instr.mapUpdate 131 (.map (some kb)) (.agg #[.int .i64 a, .int .i64 b, .int .i64 c]) (.int .i64 r)).run Try.prog w3.drew = .ok () w4 ∧
            Hid (IteGot A w y s kb w4 r (Bd.iteF (Bd.den s.L a) (Bd.den s.L b) (Bd.den s.L c))))) := by
  have hf128 := hT.okay.few
  have hk128 : k < 128 := by omega
  have lsb := block_lt hS
  have lkb := hM.lt
  have hTW := hT.below hBW
  have l2 := block_lt h3.b2
  have hy3 : ∀ j, y.own j → j < w.heap.size ∨ w.heap.size + 3 ≤ j := fun j hj => Or.inl (hT.lt hj)
  have hX3 : ∀ j, j = kb → j < w.heap.size := fun j hj => by omega
  obtain ⟨a1, a2⟩ := Bd.lo_lt hT.okay ha hk128
  obtain ⟨b1, b2⟩ := Bd.lo_lt hT.okay hb hk128
  obtain ⟨c1, c2⟩ := Bd.lo_lt hT.okay hc hk128
  obtain ⟨a3, a4⟩ := Bd.bit_half hT.okay ha hk128 hka
  obtain ⟨b3, b4⟩ := Bd.bit_half hT.okay hb hk128 hkb
  obtain ⟨c3, c4⟩ := Bd.bit_half hT.okay hc hk128 hkc
  obtain ⟨a5, a6⟩ := Bd.den_half hT.okay ha hk128 hka
  obtain ⟨b5, b6⟩ := Bd.den_half hT.okay hb hk128 hkb
  obtain ⟨c5, c6⟩ := Bd.den_half hT.okay hc hk128 hkc
  have hFrom : Bd.From k (Bd.iteF (Bd.den s.L a) (Bd.den s.L b) (Bd.den s.L c)) := Bd.from_iteF ((Bd.from_den hT.okay a ha).mono hka) ((Bd.from_den hT.okay b hb).mono hkb) ((Bd.from_den hT.okay c hc).mono hkc)
  have hFk := A.skip hF hFrom hkk (by omega)
  have hF0 := A.go k _ false hkbits hFk
  have hF1 := A.go k _ true hkbits hFk
  rw [Bd.cof_iteF, ← a5, ← b5, ← c5] at hF0
  rw [Bd.cof_iteF, ← a6, ← b6, ← c6] at hF1
  have hSW : StepAt W sb y.tb room kb := (hBW.block sb lsb).trans hS
  refine (ih s A W y sb room kb sz kf _ _ _ (k + 1) hTW hW hSW hns hnk hroom hr3 hbM (hM.same (hBW.block _ lkb)) hK a1 b1 c1 a3 b3 c3 hF0 (by omega)).mono ?_
  rintro e w1 ⟨r1, rfl, ⟨N1, y1, t1, wi1, hr1, d1, m1, sz1, kf1, k1, ko1⟩⟩
  have h31 := h3.moves m1 hy3 hX3
  refine ⟨r1, rfl, h31, ?_⟩
  have l1len : (s.L ++ N1).length = s.L.length + N1.length := List.length_append
  have hns1 := m1.not_own (Nat.lt_of_lt_of_le lsb hBW.size) hns
  have hnk1 := m1.not_own (Nat.lt_of_lt_of_le lkb hBW.size) hnk
  have hS1 : StepAt w1 sb y1.tb room kb := by
    rw [m1.tb]
    refine (m1.block sb (Nat.lt_of_lt_of_le lsb hBW.size) hns (fun e => ?_)).trans hSW
    subst e
    obtain ⟨es, cc, hm⟩ := map_block hM
    rw [hS] at hm
    cases hm
  have hF1' : A.F (k + 1) (Bd.iteF (Bd.den (s.L ++ N1) (Bd.hiOf s.L a k)) (Bd.den (s.L ++ N1) (Bd.hiOf s.L b k)) (Bd.den (s.L ++ N1) (Bd.hiOf s.L c k))) := by
    rw [Bd.den_append_old _ _ a2, Bd.den_append_old _ _ b2, Bd.den_append_old _ _ c2]; exact hF1
  refine (ih { s with L := s.L ++ N1 } A w1 y1 sb room kb sz1 kf1 (Bd.hiOf s.L a k) (Bd.hiOf s.L b k) (Bd.hiOf s.L c k) (k + 1) t1 wi1 hS1 hns1 hnk1 hroom hr3 hbM k1 ko1 (by show _ < (s.L ++ N1).length + 2; omega) (by show _ < (s.L ++ N1).length + 2; omega) (by show _ < (s.L ++ N1).length + 2; omega)
    (by show _ ≤ Bd.bitOf (s.L ++ N1) _; rw [Bd.bitOf_old _ _ a2]; exact a4) (by show _ ≤ Bd.bitOf (s.L ++ N1) _; rw [Bd.bitOf_old _ _ b2]; exact b4) (by show _ ≤ Bd.bitOf (s.L ++ N1) _; rw [Bd.bitOf_old _ _ c2]; exact c4) hF1' (by omega)).mono ?_
  rintro e w2 ⟨r2, rfl, ⟨N2, y2, t2, wi2, hr2, d2, m2, sz2, kf2, k2, ko2⟩⟩
  have t2' : Tab w2 y2 { s with L := s.L ++ N1 ++ N2 } := t2
  have wi2' : Bd.Within A (s.L ++ N1 ++ N2) := wi2
  have d2' : Bd.den (s.L ++ N1 ++ N2) r2 = _ := d2
  have hr2' : r2 < (s.L ++ N1 ++ N2).length + 2 := hr2
  have ko2' : KnownOk (s.L ++ N1 ++ N2) kf2 := ko2
  clear t2 wi2 d2 hr2 ko2
  have hX1 : w.heap.size + 3 ≤ w1.heap.size := by have := m1.size; omega
  have h32 := h31.moves m2 (own_between (_w0 := w) m1 (by omega) hy3) hX3
  refine ⟨r2, rfl, h32, ?_⟩
  have lW1 : sb < w1.heap.size := by have := m1.size; have := hBW.size; omega
  have lK1 : kb < w1.heap.size := by have := m1.size; have := hBW.size; omega
  have hns2 := m2.not_own lW1 hns1
  have hnk2 := m2.not_own lK1 hnk1
  have hS2 : StepAt w2 sb y2.tb room kb := by
    rw [m2.tb]
    refine (m2.block sb lW1 hns1 (fun e => ?_)).trans hS1
    subst e
    obtain ⟨es, cc, hm⟩ := map_block hM
    rw [hS] at hm
    cases hm
  have l2len : (s.L ++ N1 ++ N2).length = s.L.length + N1.length + N2.length := by rw [List.length_append, List.length_append]
  have dr1 : Bd.den (s.L ++ N1 ++ N2) r1 = Bd.cof (Bd.iteF (Bd.den s.L a) (Bd.den s.L b) (Bd.den s.L c)) k false := by
    rw [Bd.den_append_old _ _ hr1, d1, Bd.cof_iteF, a5, b5, c5]
  have dr2 : Bd.den (s.L ++ N1 ++ N2) r2 = Bd.cof (Bd.iteF (Bd.den s.L a) (Bd.den s.L b) (Bd.den s.L c)) k true := by
    rw [d2', Bd.cof_iteF, ← a6, ← b6, ← c6]
    show Bd.iteF (Bd.den (s.L ++ N1) _) (Bd.den (s.L ++ N1) _) (Bd.den (s.L ++ N1) _) = _
    rw [Bd.den_append_old _ _ a2, Bd.den_append_old _ _ b2, Bd.den_append_old _ _ c2]
  have hr1' : r1 < (s.L ++ N1 ++ N2).length + 2 := by omega
  have hmux : Bd.mux k (Bd.den (s.L ++ N1 ++ N2) r1) (Bd.den (s.L ++ N1 ++ N2) r2) = Bd.iteF (Bd.den s.L a) (Bd.den s.L b) (Bd.den s.L c) := by rw [dr1, dr2, Bd.mux_cof]
  refine (node_any (s := { s with L := s.L ++ N1 ++ N2 }) A t2' wi2' sb room kb hS2 hns2 hroom hr3 k r1 r2 hkbits hr1' hr2' ?_ ?_ ?_).mono ?_
  · have := Bd.bit_ge t2'.okay (r := r1) (k := k + 1) hr1' (by show Bd.From (k + 1) (Bd.den (s.L ++ N1 ++ N2) r1); rw [dr1]; exact Bd.from_cof hFrom _) (by omega)
    exact this
  · have := Bd.bit_ge t2'.okay (r := r2) (k := k + 1) hr2' (by show Bd.From (k + 1) (Bd.den (s.L ++ N1 ++ N2) r2); rw [dr2]; exact Bd.from_cof hFrom _) (by omega)
    exact this
  · show A.F k (Bd.mux k (Bd.den (s.L ++ N1 ++ N2) r1) (Bd.den (s.L ++ N1 ++ N2) r2))
    rw [hmux]; exact hFk
  · rintro e w3 ⟨r, rfl, ⟨N3, y3, t3, wi3, hr3', d3, m3⟩⟩
    have t3' : Tab w3 y3 { s with L := s.L ++ N1 ++ N2 ++ N3 } := t3
    have wi3' : Bd.Within A (s.L ++ N1 ++ N2 ++ N3) := wi3
    have hr3'' : r < (s.L ++ N1 ++ N2 ++ N3).length + 2 := hr3'
    have d3' : Bd.den (s.L ++ N1 ++ N2 ++ N3) r = Bd.iteF (Bd.den s.L a) (Bd.den s.L b) (Bd.den s.L c) := by rw [← hmux]; exact d3
    clear t3 wi3 hr3' d3
    have lW2 : sb < w2.heap.size := by have := m2.size; omega
    have lK2 : kb < w2.heap.size := by have := m2.size; omega
    have hX2 : w.heap.size + 3 ≤ w2.heap.size := by have := m2.size; omega
    have hown2 := own_between (_w0 := w) m2 (by omega) (own_between (_w0 := w) m1 (by omega) hy3)
    have h33 := h32.moves m3 hown2 (fun j hj => hj.elim)
    refine ⟨r, rfl, h33, ?_, ?_⟩
    · have h := m3.block sb lW2 hns2 (fun h => h)
      rw [World.cell?_of_block h, cell_at hS2]; rfl
    · have l3len : (s.L ++ N1 ++ N2 ++ N3).length = (s.L ++ N1 ++ N2).length + N3.length := List.length_append
      have hfew := wi3'.few t3'.okay
      have hk3 : MapOf Try.prog 99 3 w3 kb sz2 kf2 := k2.same (m3.block kb lK2 hnk2 (fun h => h))
      have ko3 : KnownOk (s.L ++ N1 ++ N2 ++ N3) kf2 := ko2'.grow N3
      obtain ⟨kl, hkl⟩ := key_arr (a := a) (b := b) (c := c) (by have := t3'.small.1; have : (s.L ++ N1 ++ N2 ++ N3).length ≤ 1073741824 := this; omega) (by have := t3'.small.1; have : (s.L ++ N1 ++ N2 ++ N3).length ≤ 1073741824 := this; omega) (by have := t3'.small.1; have : (s.L ++ N1 ++ N2 ++ N3).length ≤ 1073741824 := this; omega)
      obtain ⟨w4, hrun, hput, hg⟩ := MapOf.put_run (w := w3.drew) (hk3.same rfl) kArr Try.underlying131 Try.underlying3 (known_few hk3 ko3 (by omega)) hkl (c := (r : Int)) (wf64 (by have := t3'.small.1; have : (s.L ++ N1 ++ N2 ++ N3).length ≤ 1073741824 := this; omega))
      refine ⟨w4, hrun, ?_⟩
      obtain ⟨kf', hu⟩ := upd_exists kf2 (arV a b c) (some (r : Int))
      have hm4 := hput kf' hu
      have lK3 : kb < w3.heap.size := by have := m3.size; omega
      have hnk3 := m3.not_own lK2 hnk2
      have m4 : Moves (fun k => k = kb) w3 y3 w4 y3 := ⟨rfl, fun _ h => Or.inl h, hg.os, hg.tape, hg.output, hg.size, fun j hj _ hx => hg.block j hj (fun e => hx (by cases e; rfl))⟩
      have t4 : Tab w4 y3 { s with L := s.L ++ N1 ++ N2 ++ N3 } := t3'.same fun j hj => hg.block j (t3'.lt hj) (fun e => by cases e; exact hnk3 hj)
      have M1 : Moves (fun k => k = kb) w y W y := moves_below y hBW
      have MA := (M1.trans m1).trans (m2.trans ((m3.more (fun _ h => h.elim)).trans m4))
      refine ⟨N1 ++ (N2 ++ N3), y3, ?_, ?_, ?_, ?_, MA, _, kf', hm4, ?_⟩
      · rw [← List.append_assoc, ← List.append_assoc]; exact t4
      · rw [← List.append_assoc, ← List.append_assoc]; exact wi3'
      · rw [← List.append_assoc, ← List.append_assoc]; exact hr3''
      · rw [← List.append_assoc, ← List.append_assoc]; exact d3'
      · rw [← List.append_assoc, ← List.append_assoc]
        refine ko3.put (by omega) (by omega) (by omega) hr3'' ?_ hu
        have e3 : ∀ x, x < s.L.length + 2 → Bd.den (s.L ++ N1 ++ N2 ++ N3) x = Bd.den s.L x := by
          intro x hx
          rw [Bd.den_append_old _ _ (by omega), Bd.den_append_old _ _ (by omega), Bd.den_append_old _ _ hx]
        rw [d3', e3 a ha, e3 b hb, e3 c hc]
end Go.Proofs.Ytnkipdlfpnmgeaa
