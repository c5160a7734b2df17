/-
  Left: what it reckons, and what holds in its rounds.
-/
import Derived.Test.YtfgdikhpabapkaaEach
import Derived.Laws.AppendOwnNone
namespace Go.Proofs.Ytfgdikhpabapkaa
open Go.RowKit

set_option maxHeartbeats 400000 in
theorem cutEach_none (ao : Option Addr) (cap : Nat) (b : List UInt8) (width : Nat) (p0 : Value) (w : World) :
    Calls Try.prog 37 #[.slice ao 0 cap, tv b, .int .i64 (width : Int), p0] w fun e w' => e = .returned p0 ∧ w' = w.alloc (.cells (tc b) 54) := by
  go_enter Try.func37, Try.ntmps37
  go_wp2
  refine wp_loop_rounds 1 ?_
  rw [rounds_succ]
  go_wp2
  go_ret
  exact ⟨rfl, rfl⟩

theorem cutEach_all (ls : List (List UInt8)) (b : List UInt8) (width : Nat) (vl p0 : Value) (base : Nat) (w : World) (hb : Cu.right b = true) (hbw : b.length = width) (hls : ∀ l ∈ ls, Cu.right l = true ∧ l.length = width)
    (hownl : w.ownsRow base 54 4 vl ls.length (flat ls)) (hown : w.ownsRow base 54 4 p0 0 []) (hne : ∀ g, vl.ownBlock = some g → p0.ownBlock ≠ some g) (hbase : base ≤ w.heap.size) (hn : ls.length ≤ 16384) :
    Calls Try.prog 37 #[vl, tv b, .int .i64 (width : Int), p0] w fun e w' =>
      ∃ v' m, e = .returned v' ∧ m ≤ ls.length ∧ (m = ls.length ∨ 16384 < (eachTo ls b m).length) ∧ w'.ownsRow base 54 4 v' (eachTo ls b m).length (flat (eachTo ls b m)) ∧ w.grownBy w' p0.ownBlock ∧
      (v'.ownBlock = p0.ownBlock ∨ ∃ g, v'.ownBlock = some g ∧ w.heap.size ≤ g) := by
  have h0 := hownl
  rcases hownl.2 with ⟨e, e2⟩ | ⟨g, cap, cur, e, _⟩
  · subst e
    have : ls = [] := List.length_eq_zero_iff.1 e2
    subst this
    refine (cutEach_none none 0 b width p0 w).mono ?_
    rintro e w' ⟨rfl, rfl⟩
    exact ⟨p0, 0, rfl, Nat.le_refl _, Or.inl rfl, hown.alloc _, grown_of_below _ ((Below.refl _ _).alloc (Nat.le_refl _) _), Or.inl rfl⟩
  · subst e
    exact cutEach_any ls b width g cap p0 base w hb hbw hls h0 hown (hne g rfl) hbase hn

/-- What is left of c without the first k of several. -/
def leftTo (c : List UInt8) (ls : List (List UInt8)) : Nat → List (List UInt8)
  | 0 => [c]
  | k + 1 => (leftTo c ls k).flatMap fun l => Cu.cutL l (ls.getD k [])
theorem leftTo_succ (c : List UInt8) (ls : List (List UInt8)) (k : Nat) : leftTo c ls (k + 1) = eachTo (leftTo c ls k) (ls.getD k []) (leftTo c ls k).length := by
  rw [leftTo, eachTo, List.take_length]
def manyB (c : List UInt8) (ls : List (List UInt8)) : Bool := decide (∃ k, k ≤ ls.length ∧ 16384 < (leftTo c ls k).length)

theorem leftTo_right {c : List UInt8} {ls : List (List UInt8)} {width : Nat} (hc : Cu.right c = true ∧ c.length = width) (hl : ∀ i, i < ls.length → Cu.right (ls.getD i []) = true ∧ (ls.getD i []).length = width) :
    ∀ k, k ≤ ls.length → ∀ l ∈ leftTo c ls k, Cu.right l = true ∧ l.length = width
  | 0, _ => by intro l h; simp only [leftTo, List.mem_singleton] at h; subst h; exact hc
  | k + 1, hk => by
    intro l h
    rw [leftTo, List.mem_flatMap] at h
    obtain ⟨m, hm, hlm⟩ := h
    obtain ⟨r1, r2⟩ := leftTo_right hc hl k (by omega) m hm
    obtain ⟨s1, s2⟩ := hl k (by omega)
    obtain ⟨q1, q2⟩ := Cu.cutL_right r1 s1 (r2.trans s2.symm) l hlm
    exact ⟨q1, q2.trans r2⟩

theorem eachTo_mono (ls : List (List UInt8)) (b : List UInt8) (m : Nat) : (eachTo ls b m).length ≤ (eachTo ls b ls.length).length := by
  unfold eachTo
  rw [List.take_length]
  conv => rhs; rw [← List.take_append_drop m ls]
  rw [List.flatMap_append, List.length_append]
  omega

/-- A row of texts that may be appended: nil, or somewhere. -/
def Src (w : World) (v : Value) (ls : List (List UInt8)) : Prop :=
  (v = .slice none 0 0 ∧ ls = []) ∨ ∃ ad cap, v = .slice (some ad) ls.length cap ∧ ∀ j u, (svs ls)[j]? = some u → ad.block < w.heap.size ∧ w.cell? (ad.add j) = some u
theorem Src.below {w w' : World} {v : Value} {ls : List (List UInt8)} (h : Src w v ls) {B : Nat} (hb : Below B w w') (hB : w.heap.size ≤ B) : Src w' v ls := by
  rcases h with h | ⟨ad, cap, e, hc⟩
  · exact Or.inl h
  · refine Or.inr ⟨ad, cap, e, fun j u hj => ?_⟩
    obtain ⟨h1, h2⟩ := hc j u hj
    have hbk : (ad.add j).block = ad.block := by unfold Addr.add; split <;> rfl
    exact ⟨Nat.lt_of_lt_of_le h1 hb.size, by rw [hb.cell (by rw [hbk]; omega)]; exact h2⟩

/-- What holds in the rounds of Left. -/
structure LeftInv (w3 : World) (ls : List (List UInt8)) (v s : Value) (wr : World) : Prop where
  own : wr.ownsRow w3.heap.size 54 4 v ls.length (flat ls)
  spare : ∃ n xs, wr.ownsRow w3.heap.size 54 4 s n xs
  ne : ∀ g, v.ownBlock = some g → s.ownBlock ≠ some g
  below : Below w3.heap.size w3 wr

theorem LeftInv.next {w3 : World} {ls ls' : List (List UInt8)} {v s p0 v' : Value} {wr w5 : World} {o : Obj} (h : LeftInv w3 ls v s wr) (hp : p0.ownBlock = s.ownBlock)
    (hown : w5.ownsRow w3.heap.size 54 4 v' ls'.length (flat ls')) (hg : (wr.alloc o).drew.grownBy w5 p0.ownBlock) (hat : v'.ownBlock = p0.ownBlock ∨ ∃ g, v'.ownBlock = some g ∧ (wr.alloc o).drew.heap.size ≤ g) : LeftInv w3 ls' v' v w5 := {
  own := hown
  spare := ⟨_, _, (h.own.alloc o).drew.kept hg (by
    cases hv : v.ownBlock with
    | none => exact Or.inl rfl
    | some g => right; rw [hp]; exact fun e => h.ne g hv e.symm)⟩
  ne := by
    intro g hgv hvg
    rcases hat with e | ⟨q, e, hq⟩
    · rw [e, hp] at hgv
      exact h.ne g hvg hgv
    · rw [e] at hgv
      simp only [Option.some.injEq] at hgv
      have := (h.own.lt g hvg).2
      subst hgv
      simp at hq
      omega
  below := by
    have hs := h.below.size
    obtain ⟨n, xs, hsp⟩ := h.spare
    exact (h.below.alloc hs o).drew.grown hg (by simp; omega) (fun k hk => by rw [hp] at hk; exact (hsp.lt k hk).1) }

/-- The spare row, cut to nothing. -/
theorem spare_zero {w : World} {base g n cap : Nat} {xs : List Value} (h : w.ownsRow base 54 4 (.slice (some ⟨g, 0, none⟩) n cap) n xs) : w.ownsRow base 54 4 (.slice (some ⟨g, 0, none⟩) 0 cap) 0 [] := by
  rcases h.2 with ⟨e, _⟩ | ⟨g', cap', cur, e, hb, hg, hnc, hm, hs, _⟩
  · cases e
  · simp only [Value.slice.injEq, Option.some.injEq, Addr.mk.injEq, and_true, true_and] at e
    obtain ⟨rfl, rfl⟩ := e
    exact ⟨rfl, Or.inr ⟨g, cap, cur, rfl, hb, hg, Nat.zero_le _, hm, hs, by simp⟩⟩
end Go.Proofs.Ytfgdikhpabapkaa
