/-
  cutEach: the parts of each of several ternaries without another one.
-/
import Derived.Test.YtfgdikhpabapkaaLParts
namespace Go.Proofs.Ytfgdikhpabapkaa
open Go.RowKit

/-- The parts of the first k. -/
def eachTo (ls : List (List UInt8)) (b : List UInt8) (k : Nat) : List (List UInt8) := (ls.take k).flatMap fun l => Cu.cutL l b
theorem eachTo_zero (ls : List (List UInt8)) (b : List UInt8) : eachTo ls b 0 = [] := rfl
theorem eachTo_succ (ls : List (List UInt8)) (b : List UInt8) {k : Nat} (hk : k < ls.length) : eachTo ls b (k + 1) = eachTo ls b k ++ Cu.cutL (ls.getD k []) b := by
  unfold eachTo
  rw [List.take_succ_eq_append_getElem hk, List.flatMap_append, nth_at hk]
  simp

/-- What holds in the rounds of cutEach. -/
structure EachInv (w : World) (base : Nat) (p0 : Value) (us : Array Value) (vl : Value) (nl : Nat) (xl : List Value) (p : Value) (m : Nat) (ys : List Value) (wr : World) : Prop where
  u : wr.heap[w.heap.size]? = some (.cells us 54 (0, 0))
  ownl : wr.ownsRow base 54 4 vl nl xl
  own : wr.ownsRow base 54 4 p m ys
  grown : w.grownBy wr p0.ownBlock
  place : p.ownBlock = p0.ownBlock ∨ ∃ g, p.ownBlock = some g ∧ w.heap.size + 1 ≤ g
  old : ∀ g, p0.ownBlock = some g → g < w.heap.size
  oldl : ∀ g, vl.ownBlock = some g → g < w.heap.size
  ne : ∀ g, vl.ownBlock = some g → p0.ownBlock ≠ some g

section
variable {w : World} {base : Nat} {p0 : Value} {us : Array Value} {vl : Value} {nl : Nat} {xl : List Value} {p : Value} {m : Nat} {ys : List Value} {wr : World}

theorem EachInv.size (h : EachInv w base p0 us vl nl xl p m ys wr) : w.heap.size + 1 ≤ wr.heap.size := lt_of_block h.u
theorem EachInv.pne (h : EachInv w base p0 us vl nl xl p m ys wr) : p.ownBlock ≠ some w.heap.size := by
  rcases h.place with e | ⟨g, e, hg⟩
  · rw [e]; exact fun f => by have := h.old _ f; omega
  · rw [e]; exact fun f => by simp at f; omega
theorem EachInv.plne (h : EachInv w base p0 us vl nl xl p m ys wr) : vl.ownBlock = none ∨ vl.ownBlock ≠ p.ownBlock := by
  cases hv : vl.ownBlock with
  | none => exact Or.inl rfl
  | some g =>
    right
    rcases h.place with e | ⟨g', e, hg⟩
    · rw [e]; exact fun f => h.ne g hv f.symm
    · rw [e]; intro f; simp at f; have := h.oldl g hv; omega

theorem EachInv.below (h : EachInv w base p0 us vl nl xl p m ys wr) {w1 : World} (hb : Below wr.heap.size wr w1) : EachInv w base p0 us vl nl xl p m ys w1 := {
  u := below_block hb h.u (lt_of_block h.u)
  ownl := h.ownl.kept (grown_of_below none hb) (by cases vl.ownBlock <;> simp)
  own := h.own.kept (grown_of_below none hb) (by cases p.ownBlock <;> simp)
  grown := grown_through h.grown (grown_of_below none hb) (fun i _ _ => by simp)
  place := h.place
  old := h.old
  oldl := h.oldl
  ne := h.ne }

theorem EachInv.next (h : EachInv w base p0 us vl nl xl p m ys wr) {w1 : World} {p' : Value} {m' : Nat} {ys' : List Value} (hown : w1.ownsRow base 54 4 p' m' ys') (g : wr.grownBy w1 p.ownBlock)
    (hat : p'.ownBlock = p.ownBlock ∨ ∃ g, p'.ownBlock = some g ∧ wr.heap.size ≤ g) : EachInv w base p0 us vl nl xl p' m' ys' w1 := {
  u := (g.block _ (lt_of_block h.u) (fun e => h.pne e.symm)).trans h.u
  ownl := h.ownl.kept g h.plne
  own := hown
  grown := grown_through h.grown g (fun i hi hne => by
    rcases h.place with e | ⟨q, e, hq⟩
    · rw [e]; exact hne
    · rw [e]; simp; omega)
  place := by
    rcases hat with e | ⟨q, e, hq⟩
    · rw [e]; exact h.place
    · exact Or.inr ⟨q, e, Nat.le_trans h.size hq⟩
  old := h.old
  oldl := h.oldl
  ne := h.ne }
end

set_option maxHeartbeats 2000000 in
theorem cutEach_any (ls : List (List UInt8)) (b : List UInt8) (width : Nat) (g cap : Nat) (p0 : Value) (base : Nat) (w : World) (hb : Cu.right b = true) (hbw : b.length = width) (hls : ∀ l ∈ ls, Cu.right l = true ∧ l.length = width)
    (hownl : w.ownsRow base 54 4 (.slice (some ⟨g, 0, none⟩) ls.length cap) ls.length (flat ls)) (hown : w.ownsRow base 54 4 p0 0 []) (hne : p0.ownBlock ≠ some g) (hbase : base ≤ w.heap.size) (hn : ls.length ≤ 16384) :
    Calls Try.prog 37 #[.slice (some ⟨g, 0, none⟩) ls.length cap, tv b, .int .i64 (width : Int), p0] w fun e w' =>
      ∃ v' m, e = .returned v' ∧ m ≤ ls.length ∧ (m = ls.length ∨ 16384 < (eachTo ls b m).length) ∧ w'.ownsRow base 54 4 v' (eachTo ls b m).length (flat (eachTo ls b m)) ∧ w.grownBy w' p0.ownBlock ∧
      (v'.ownBlock = p0.ownBlock ∨ ∃ g, v'.ownBlock = some g ∧ w.heap.size ≤ g) := by
  have HB := hid hb
  have HBW := hid hbw
  have HLS := hid hls
  have I0 : Hid (EachInv w base p0 (tc b) (.slice (some ⟨g, 0, none⟩) ls.length cap) ls.length (flat ls) p0 0 [] (w.alloc (.cells (tc b) 54))) :=
    ⟨new_0 _ _, hownl.alloc _, hown.alloc _, grown_of_below _ ((Below.refl _ _).alloc (Nat.le_refl _) _), Or.inl rfl, fun g hg => (hown.lt g hg).2, fun g hg => (hownl.lt g hg).2, fun q hq => by
      simp only [Value.ownBlock, Option.some.injEq] at hq; rw [← hq]; exact hne⟩
  clear hb hbw hls hownl hown hne
  obtain ⟨n, hnn⟩ : ∃ n, n = ls.length := ⟨_, rfl⟩
  have HN := hid hnn
  rw [← hnn] at I0 hn
  rw [← hnn]
  clear hnn
  go_enter Try.func37, Try.ntmps37
  go_wp2
  go_loopw [3, 13] (fun p i wr => ∃ k : Nat, k ≤ n ∧ i = .int .i64 k ∧ EachInv w base p0 (tc b) (.slice (some ⟨g, 0, none⟩) n cap) n (flat ls) p (eachTo ls b k).length (flat (eachTo ls b k)) wr ∧ (eachTo ls b k).length ≤ 16384) (fun _ i _ => n - (intOf i).toNat)
  case atStart => exact ⟨0, Nat.zero_le _, rfl, I0.out, by simp [eachTo]⟩
  case round =>
    obtain ⟨k, hk, rfl, inv, hlen⟩ := hrel
    have J0 := hid inv
    clear inv I0
    by_cases hlt : k < n
    · have HKL : Hid (k < ls.length) := by show _ < _; rw [← HN.out]; exact hlt
      obtain ⟨l, hl⟩ : ∃ l, l = ls.getD k [] := ⟨_, rfl⟩
      have hfl : ∀ j, j < 4 → wr.cell? ⟨g, k * 4 + j, none⟩ = (tc l)[j]? := fun j hj => by
        rw [J0.out.ownl.cellAt (k * 4 + j) (by omega), flat_get ls k HKL.out j hj, hl, nth_at HKL.out]
      have t0 : wr.cell? ⟨g, k * 4, none⟩ = some (.int .u64 (Cu.wd (Cu.fixAt l) 0 : Int)) := hfl 0 (by omega)
      have t1 : wr.cell? ⟨g, k * 4 + 1, none⟩ = some (.int .u64 (Cu.wd (Cu.fixAt l) 1 : Int)) := hfl 1 (by omega)
      have t2 : wr.cell? ⟨g, k * 4 + 2, none⟩ = some (.int .u64 (Cu.wd (Cu.oneAt l) 0 : Int)) := hfl 2 (by omega)
      have t3 : wr.cell? ⟨g, k * 4 + 3, none⟩ = some (.int .u64 (Cu.wd (Cu.oneAt l) 1 : Int)) := hfl 3 (by omega)
      obtain ⟨y0, y1, y2, y3⟩ := four_cell J0.out.u
      have hus : w.heap.size < wr.heap.size := J0.out.size
      have HR : Hid (Cu.right l = true ∧ l.length = width) := by
        show _ ∧ _; rw [hl, nth_at HKL.out]; exact HLS.out _ (List.getElem_mem HKL.out)
      have HSC : Hid (eachTo ls b (k + 1) = eachTo ls b k ++ Cu.cutL l b) := by
        show _ = _; rw [hl]; exact eachTo_succ ls b HKL.out
      have hcl : (Cu.cutL l b).length ≤ 128 := Cu.cutL_length HR.out.1
      clear hfl hl
      go_wp2_with fail
      refine (cut_any l b width u3 (eachTo ls b k).length (flat (eachTo ls b k)) base (wr.alloc (.cells (tc l) 54)) HR.out.1 HB.out (HR.out.2.trans HBW.out.symm) HR.out.2 (J0.out.own.alloc _) (by simp; omega) (by omega)).mono ?_
      rintro e w2 ⟨v2, rfl, hown2, hgr2, hat2⟩
      have JA := (J0.out.below ((Below.refl _ _).alloc (Nat.le_refl _) (.cells (tc l) 54)))
      have J1 := hid (JA.next hown2 hgr2 hat2)
      clear JA
      rw [← List.length_append, ← flat_append, ← HSC.out] at J1
      have hls2 : (eachTo ls b (k + 1)).length = (eachTo ls b k).length + (Cu.cutL l b).length := by rw [HSC.out, List.length_append]
      obtain ⟨ao, cp, hv2⟩ : ∃ ao cp, v2 = .slice ao (eachTo ls b (k + 1)).length cp := by
        rcases J1.out.own.2 with ⟨e, e2⟩ | ⟨g2, c2, _, e, _⟩
        · exact ⟨none, 0, by rw [e2]; exact e⟩
        · exact ⟨_, _, e⟩
      subst hv2
      obtain ⟨nx, hnx⟩ : ∃ nx, nx = (eachTo ls b (k + 1)).length := ⟨_, rfl⟩
      have HNX := hid hnx
      rw [← hnx]
      rw [← hnx] at J1 hls2
      have hnxle : nx ≤ 16512 := by omega
      clear hnx hls2 hown2 hgr2 hat2 t0 t1 t2 t3 y0 y1 y2 y3
      by_cases hbig : 16384 < nx
      · have hb2 : (16384 : Int) < (nx : Int) := by omega
        go_wp2
        go_ret
        have J2 := J1.out
        refine ⟨.slice ao nx cp, k + 1, rfl, hlt, Or.inr (by rw [← HNX.out]; exact hbig), ?_, J2.grown, ?_⟩
        · rw [← HNX.out]; exact J2.own
        · rcases J2.place with e | ⟨q, e, hq⟩
          · exact Or.inl e
          · exact Or.inr ⟨q, e, by omega⟩
      · have hb2 : ¬ (16384 : Int) < (nx : Int) := by omega
        go_wp2
        go_roundw
        case rel =>
          refine ⟨k + 1, by omega, by go_num, ?_, by rw [← HNX.out]; omega⟩
          rw [← HNX.out]
          exact J1.out
        case measure => simp [intOf]; omega
    · have hkn : k = n := by omega
      subst hkn
      go_wp2
      go_ret
      refine ⟨u3, k, rfl, Nat.le_refl _, Or.inl rfl, J0.out.own, J0.out.grown, ?_⟩
      rcases J0.out.place with e | ⟨q, e, hq⟩
      · exact Or.inl e
      · exact Or.inr ⟨q, e, by omega⟩
end Go.Proofs.Ytfgdikhpabapkaa
