/-
  The law BddRefs: of any bits, texts and number it answers true.
-/
import Derived.Test.YtffngpdngjfcfaaBBad
import Derived.Test.YtffngpdngjfcfaaBCubeE
import Derived.Test.YtffngpdngjfcfaaBAwake
namespace Go.Proofs.Ytffngpdngjfcfaa
open Go.RowKit Go.Maps
open Bd (Nd)

/-- What is known of a slice of texts that came in. -/
def Came (w : World) (a0 : Option Addr) (len cap : Nat) (ss : List ByteArray) : Prop :=
  (a0 = none ∧ len = 0 ∧ cap = 0 ∧ ss = []) ∨ ∃ a, a0 = some a ∧ len ≤ cap ∧ cap ≤ maxLen ∧ ss.length = cap ∧ (∀ i, i < ss.length → w.cell? (a.add i) = some (.string (ss.getD i ByteArray.empty))) ∧ ∀ s ∈ ss, s.size ≤ maxLen
theorem addr_add (g o i : Nat) : (⟨g, o, none⟩ : Addr).add i = ⟨g, o + i, none⟩ := by
  unfold Addr.add; split <;> simp_all
theorem addr_of {w : World} {a : Addr} {v : Value} (h : w.cell? (a.add 0) = some v) : (∃ g o, a = ⟨g, o, none⟩) ∧ a.block < w.heap.size := by
  have e : a.add 0 = a := by unfold Addr.add; simp
  rw [e] at h
  obtain ⟨g, o, sp⟩ := a
  have hlt : g < w.heap.size := World.block_lt_of_cell? w _ h
  refine ⟨?_, hlt⟩
  cases sp with
  | none => exact ⟨g, o, rfl⟩
  | some s =>
    exfalso
    unfold World.cell? at h
    simp only [Option.isSome_some, if_true] at h
    split at h <;> cases h
theorem text_of {w : World} {a0 : Option Addr} {len cap : Nat} {ss : List ByteArray} (h : Came w a0 len cap ss) {i : Nat} (hi : i < len) :
    ∃ g o, a0 = some ⟨g, o, none⟩ ∧ g < w.heap.size ∧ w.cell? ⟨g, o + i, none⟩ = some (.string (ss.getD i ByteArray.empty)) ∧ i < ss.length := by
  rcases h with ⟨_, h, _⟩ | ⟨a, rfl, hl, hm, hz, hc, _⟩
  · omega
  · obtain ⟨⟨g, o, rfl⟩, hb⟩ := addr_of (hc 0 (by omega))
    have := hc i (by omega)
    rw [addr_add] at this
    exact ⟨g, o, rfl, hb, this, by omega⟩

/-- The texts of which the law makes cubes. -/
def fitting (bits : Nat) (ss : List ByteArray) : List ByteArray := (ss.take 30).filter fun t => t.size == bits
def refFam (bits : Nat) (ss : List ByteArray) : Bd.Fam bits 32 := cubeFam bits (fitting bits ss) (fun t ht => by unfold fitting at ht; rw [List.mem_filter] at ht; simpa using ht.2) (by
  unfold fitting
  have h1 := List.length_filter_le (fun t : ByteArray => t.size == bits) (ss.take 30)
  have h2 : (ss.take 30).length ≤ 30 := by rw [List.length_take]; omega
  omega)

/-- The law's table behind k cubes. -/
structure Refs (B : Nat) (w0 w : World) (tb bits : Nat) (A : Bd.Fam bits 32) (bad : Int) (k : Nat) (kn : Bool) : Prop where
  ex : ∃ y L roots, y.tb = tb ∧ Tab w y ⟨L, roots, 2, bits, 1048576⟩ ∧ Bd.Within A L ∧ roots.length ≤ k ∧ (kn = false → bad ≠ 0 ∧ bad ≠ 1 ∧ (bad < 2 ∨ 2 + (roots.length : Int) ≤ bad)) ∧ Below B w0 w ∧ (∀ j, y.own j → B ≤ j) ∧ B ≤ w.heap.size

theorem Refs.below {B : Nat} {w0 w w' : World} {tb bits k : Nat} {A : Bd.Fam bits 32} {bad : Int} {kn : Bool} (h : Refs B w0 w tb bits A bad k kn) (hb : Below w.heap.size w w') : Refs B w0 w' tb bits A bad k kn := by
  obtain ⟨y, L, roots, e, hT, hW, hl, hk, hb0, hy, hB⟩ := h.ex
  exact ⟨y, L, roots, e, hT.below hb, hW, hl, hk, hb0.trans (hb.mono hB), hy, Nat.le_trans hB hb.size⟩

theorem refs_new (w : World) (bits : Nat) (h1 : 1 ≤ bits) (h2 : bits ≤ 128) (A : Bd.Fam bits 32) (bad : Int) : Calls Try.prog 13 #[.int .i64 (bits : Int), .int .i64 1048576] w fun e w' => ∃ tb, e = .returned (.tuple #[.pointer (some ⟨tb, 0, none⟩), .int .i64 0]) ∧ ∀ kn, (kn = false → bad ≠ 0 ∧ bad ≠ 1) → Refs w.heap.size w w' tb bits A bad 0 kn := by
  refine (New_ok w bits 1048576 h1 h2 (Nat.le_refl _)).mono ?_
  rintro e w' ⟨y, rfl, hT, hb, hy⟩
  refine ⟨y.tb, rfl, fun kn hkn => ⟨y, [], [], rfl, hT, Bd.within_nil _, Nat.le_refl _, fun h => ⟨(hkn h).1, (hkn h).2, ?_⟩, hb, hy, hb.size⟩⟩
  show bad < 2 ∨ 2 + ((0 : Nat) : Int) ≤ bad
  omega

set_option maxHeartbeats 1000000 in
theorem refs_cube {B : Nat} {w0 w : World} {tb bits k : Nat} {ss : List ByteArray} {bad : Int} {kn : Bool} (h1 : bits ≤ 128) (h : Refs B w0 w tb bits (refFam bits ss) bad k kn) (hk : k < 30) (hks : k < ss.length) :
    Calls Try.prog 25 #[.pointer (some ⟨tb, 0, none⟩), .string (ss.getD k ByteArray.empty)] w fun e w' =>
      (∃ r : Nat, e = .returned (.tuple #[.int .i64 r, .int .i64 0]) ∧ ∀ kn', (kn' = false → kn = false ∧ (r : Int) ≠ bad) → Refs B w0 w' tb bits (refFam bits ss) bad (k + 1) kn') ∨
      (e = .returned (.tuple #[.int .i64 0, .int .i64 21]) ∧ Refs B w0 w' tb bits (refFam bits ss) bad (k + 1) kn) := by
  have more : ∀ w', Refs B w0 w' tb bits (refFam bits ss) bad k kn → Refs B w0 w' tb bits (refFam bits ss) bad (k + 1) kn := by
    intro w' h'
    obtain ⟨y, L, roots, e, hT, hW, hl, hkn, hb0, hy, hB⟩ := h'.ex
    exact ⟨y, L, roots, e, hT, hW, by omega, hkn, hb0, hy, hB⟩
  have h0 := h
  obtain ⟨y, L, roots, rfl, hT, hW, hl, hkn, hb0, hy, hB⟩ := h.ex
  generalize ht : ss.getD k ByteArray.empty = t
  by_cases hsz : t.size = bits
  · cases hr : Cu.right t.data.toList
    · exact (Cube_text hT t hsz hr).mono fun e w' ⟨h1, h2⟩ => Or.inr ⟨h1, more w' (h0.below h2)⟩
    · have hin : t ∈ fitting bits ss := by
        unfold fitting
        rw [List.mem_filter]
        refine ⟨?_, by simpa using hsz⟩
        rw [← ht, List.getD_eq_getElem?_getD, List.getElem?_eq_getElem hks]
        refine List.mem_iff_getElem.2 ⟨k, by rw [List.length_take]; omega, ?_⟩
        rw [List.getElem_take]; rfl
      refine (Cube_ok (s := ⟨L, roots, 2, bits, 1048576⟩) (refFam bits ss) hT hW (Nat.le_refl _) (by show roots.length + 1 ≤ _; omega) (by show bits * 32 ≤ 1048576; omega) t hsz hr (Or.inl ⟨t, hin, rfl⟩)).mono ?_
      rintro e w' ⟨r, rfl, ⟨N, t', y', m, hT', hW', hn, hm, hd, hmv, ha⟩⟩
      refine Or.inl ⟨r, rfl, fun kn' hkn' => ?_⟩
      obtain ⟨hb', hy'⟩ := moves_out hb0 hB hy hmv
      refine ⟨y', L ++ N, roots ++ t', hmv.tb, hT', hW', by rw [List.length_append]; have := ha.few; omega, fun hf => ?_, hb', hy', Nat.le_trans hB hmv.size⟩
      obtain ⟨hf1, hf2⟩ := hkn' hf
      obtain ⟨k0, k1, k2⟩ := hkn hf1
      refine ⟨k0, k1, ?_⟩
      rcases ha with e | ⟨e1, e2⟩
      · rw [e, List.append_nil]; exact k2
      · have e2' : r = 2 + roots.length := e2
        rw [List.length_append, e1]
        omega
  · exact (Cube_size hT t hsz).mono fun e w' ⟨h1, h2⟩ => Or.inr ⟨h1, more w' (h0.below h2)⟩

/-- The law's table, as it is asked for a ref that it never told. -/
structure Asked (B : Nat) (w0 w : World) (tb n : Nat) (bad : Int) : Prop where
  ex : ∃ y s, y.tb = tb ∧ Tab w y s ∧ s.L.length = n ∧ Bad s bad ∧ Below B w0 w ∧ B ≤ w.heap.size
theorem Asked.below {B : Nat} {w0 w w' : World} {tb n : Nat} {bad : Int} (h : Asked B w0 w tb n bad) (hb : Below w.heap.size w w') : Asked B w0 w' tb n bad := by
  obtain ⟨y, s, e, hT, hn, hB, hb0, hs⟩ := h.ex
  exact ⟨y, s, e, hT.below hb, hn, hB, hb0.trans (hb.mono hs), Nat.le_trans hs hb.size⟩
theorem Asked.size {B : Nat} {w0 w : World} {tb n : Nat} {bad : Int} (h : Asked B w0 w tb n bad) : Calls Try.prog 30 #[.pointer (some ⟨tb, 0, none⟩)] w fun e w' => e = .returned (.int .i64 n) ∧ w' = w := by
  obtain ⟨y, s, rfl, hT, rfl, _⟩ := h.ex
  exact Size_ok hT
theorem Asked.ans {B : Nat} {w0 w : World} {tb n : Nat} {bad : Int} (h : Asked B w0 w tb n bad) (v : Value) (xs : List Int) (p : Nat) (hI : IntsAt w v xs) (hF : FirstBad xs p bad) : AnsErr w (.pointer (some ⟨tb, 0, none⟩)) v 22 := by
  obtain ⟨y, s, rfl, hT, rfl, hB, _⟩ := h.ex
  exact answer_bad hT v xs p bad hI hF hB
theorem Asked.ite {B : Nat} {w0 w : World} {tb n : Nat} {bad : Int} (h : Asked B w0 w tb n bad) (x y z : Int) (p : Nat) (hF : FirstBad [x, y, z] p bad) : IteErr w (some ⟨tb, 0, none⟩) x y z 22 :=
  fun w1 hb => ((h.below hb).below ((Below.refl _ _).alloc (Nat.le_refl _) _)).ans _ [x, y, z] p (ints_new w1 [x, y, z]) hF
theorem Asked.root {B : Nat} {w0 w : World} {tb n : Nat} {bad : Int} (h : Asked B w0 w tb n bad) : RootErr w (.pointer (some ⟨tb, 0, none⟩)) (.int .i64 bad) 22 := by
  obtain ⟨y, s, rfl, hT, rfl, hB, _⟩ := h.ex
  exact root_bad hT bad hB
theorem Refs.asked {B : Nat} {w0 w : World} {tb bits k : Nat} {A : Bd.Fam bits 32} {bad : Int} (h : Refs B w0 w tb bits A bad k false) (hw : bad ≤ 9223372036854775807) : ∃ n, Asked B w0 w tb n bad := by
  obtain ⟨y, L, roots, e, hT, hW, hl, hk, hb0, hy, hB⟩ := h.ex
  obtain ⟨k0, k1, k2⟩ := hk rfl
  exact ⟨L.length, y, _, e, hT, rfl, ⟨k0, k1, k2, hw⟩, hb0, hB⟩
theorem first_bad0 (bad x : Int) : FirstBad [bad, x] 0 bad := ⟨by simp, rfl, fun i _ hi => by omega⟩
theorem first_bad1 (bad x : Int) (hx : x = 0 ∨ x = 1) : FirstBad [x, bad] 1 bad := ⟨by simp, rfl, fun i y hi h => by
  have : i = 0 := by omega
  subst this
  simp at h
  subst h
  exact hx⟩
theorem first_bad3 (bad x y : Int) : FirstBad [bad, x, y] 0 bad := ⟨by simp, rfl, fun i _ hi => by omega⟩
theorem first_bad4 (bad x z : Int) (hx : x = 0 ∨ x = 1) : FirstBad [x, bad, z] 1 bad := ⟨by simp, rfl, fun i y hi h => by
  have : i = 0 := by omega
  subst this
  simp at h
  subst h
  exact hx⟩
end Go.Proofs.Ytffngpdngjfcfaa
