/-
  A slice of texts that came in, as the contracts ask for it.
  The law CubeAllOrLeft: of any text, any row of texts and any header it answers true.
  Left: what is left of one text without several.
  Left: what it reckons, and what holds in its rounds.
  cutEach: the parts of each of several ternaries without another one.
-/
import Derived.Test.YtipmlcdnfaobiaaGreatLMeetsAnd
import Derived.Laws.AppendOwnNone
import Derived.SliceStrings
namespace Go.Proofs.YtipmlcdnfaobiaaGreat.Cub
open Go.RowKit

/-- The parts of the first k. -/
def eachTo (ls : List (List UInt8)) (b : List UInt8) (k : Nat) : List (List UInt8) := (ls.take k).flatMap fun l => Cu.cutL l b
theorem eachTo_succ (ls : List (List UInt8)) (b : List UInt8) {k : Nat} (hk : k < ls.length) : eachTo ls b (k + 1) = eachTo ls b k ++ Cu.cutL (ls.getD k []) b := by
  unfold eachTo
  rw [List.take_succ_eq_append_getElem hk, List.flatMap_append, nth_at hk]
  simp

/-- What holds in the rounds of cutEach. -/
structure EachInv (w : World) (base : Nat) (p0 : Value) (us : Array Value) (vl : Value) (nl : Nat) (xl : List Value) (p : Value) (m : Nat) (ys : List Value) (wr : World) : Prop where
  u : wr.heap[w.heap.size]? = some (.cells us 108 (0, 0))
  ownl : wr.ownsRow base 108 4 vl nl xl
  own : wr.ownsRow base 108 4 p m ys
  grown : w.grownBy wr p0.ownBlock
  place : p.ownBlock = p0.ownBlock ∨ ∃ g, p.ownBlock = some g ∧ w.heap.size + 1 ≤ g
  old : ∀ g, p0.ownBlock = some g → g < w.heap.size
  oldl : ∀ g, vl.ownBlock = some g → g < w.heap.size
  ne : ∀ g, vl.ownBlock = some g → p0.ownBlock ≠ some g

section
variable {w : World} {base : Nat} {p0 : Value} {us : Array Value} {vl : Value} {nl : Nat} {xl : List Value} {p : Value} {m : Nat} {ys : List Value} {wr : World}

theorem EachInv.size (h : EachInv w base p0 us vl nl xl p m ys wr) : w.heap.size + 1 ≤ wr.heap.size := lt_of_block h.u
theorem EachInv.pne (h : EachInv w base p0 us vl nl xl p m ys wr) : p.ownBlock ≠ some w.heap.size := by
  rcases h.place with e | ⟨g, e, hg⟩
  · rw [e]; exact fun f => by have := h.old _ f; omega
  · rw [e]; exact fun f => by simp at f; omega
theorem EachInv.plne (h : EachInv w base p0 us vl nl xl p m ys wr) : vl.ownBlock = none ∨ vl.ownBlock ≠ p.ownBlock := by
  cases hv : vl.ownBlock with
  | none => exact Or.inl rfl
  | some g =>
    right
    rcases h.place with e | ⟨g', e, hg⟩
    · rw [e]; exact fun f => h.ne g hv f.symm
    · rw [e]; intro f; simp at f; have := h.oldl g hv; omega

theorem EachInv.below (h : EachInv w base p0 us vl nl xl p m ys wr) {w1 : World} (hb : Below wr.heap.size wr w1) : EachInv w base p0 us vl nl xl p m ys w1 := {
  u := below_block hb h.u (lt_of_block h.u)
  ownl := h.ownl.kept (grown_of_below none hb) (by cases vl.ownBlock <;> simp)
  own := h.own.kept (grown_of_below none hb) (by cases p.ownBlock <;> simp)
  grown := grown_through h.grown (grown_of_below none hb) (fun i _ _ => by simp)
  place := h.place
  old := h.old
  oldl := h.oldl
  ne := h.ne }

theorem EachInv.next (h : EachInv w base p0 us vl nl xl p m ys wr) {w1 : World} {p' : Value} {m' : Nat} {ys' : List Value} (hown : w1.ownsRow base 108 4 p' m' ys') (g : wr.grownBy w1 p.ownBlock)
    (hat : p'.ownBlock = p.ownBlock ∨ ∃ g, p'.ownBlock = some g ∧ wr.heap.size ≤ g) : EachInv w base p0 us vl nl xl p' m' ys' w1 := {
  u := (g.block _ (lt_of_block h.u) (fun e => h.pne e.symm)).trans h.u
  ownl := h.ownl.kept g h.plne
  own := hown
  grown := grown_through h.grown g (fun i hi hne => by
    rcases h.place with e | ⟨q, e, hq⟩
    · rw [e]; exact hne
    · rw [e]; simp; omega)
  place := by
    rcases hat with e | ⟨q, e, hq⟩
    · rw [e]; exact h.place
    · exact Or.inr ⟨q, e, Nat.le_trans h.size hq⟩
  old := h.old
  oldl := h.oldl
  ne := h.ne }
end

set_option maxHeartbeats 2000000 in
theorem cutEach_any (ls : List (List UInt8)) (b : List UInt8) (width : Nat) (g cap : Nat) (p0 : Value) (base : Nat) (w : World) (hb : Cu.right b = true) (hbw : b.length = width) (hls : ∀ l ∈ ls, Cu.right l = true ∧ l.length = width)
    (hownl : w.ownsRow base 108 4 (.slice (some ⟨g, 0, none⟩) ls.length cap) ls.length (flat ls)) (hown : w.ownsRow base 108 4 p0 0 []) (hne : p0.ownBlock ≠ some g) (hbase : base ≤ w.heap.size) (hn : ls.length ≤ 16384) :
    Calls Tryz.prog 59 #[.slice (some ⟨g, 0, none⟩) ls.length cap, tv b, .int .i64 (width : Int), p0] w fun e w' =>
      ∃ v' m, e = .returned v' ∧ m ≤ ls.length ∧ (m = ls.length ∨ 16384 < (eachTo ls b m).length) ∧ w'.ownsRow base 108 4 v' (eachTo ls b m).length (flat (eachTo ls b m)) ∧ w.grownBy w' p0.ownBlock ∧
      (v'.ownBlock = p0.ownBlock ∨ ∃ g, v'.ownBlock = some g ∧ w.heap.size ≤ g) := by
  have HB := hid hb
  have HBW := hid hbw
  have HLS := hid hls
  have I0 : Hid (EachInv w base p0 (tc b) (.slice (some ⟨g, 0, none⟩) ls.length cap) ls.length (flat ls) p0 0 [] (w.alloc (.cells (tc b) 108))) :=
    ⟨new_0 _ _, hownl.alloc _, hown.alloc _, grown_of_below _ ((Below.refl _ _).alloc (Nat.le_refl _) _), Or.inl rfl, fun g hg => (hown.lt g hg).2, fun g hg => (hownl.lt g hg).2, fun q hq => by
      simp only [Value.ownBlock, Option.some.injEq] at hq; rw [← hq]; exact hne⟩
  clear hb hbw hls hownl hown hne
  obtain ⟨n, hnn⟩ : ∃ n, n = ls.length := ⟨_, rfl⟩
  have HN := hid hnn
  rw [← hnn] at I0 hn
  rw [← hnn]
  clear hnn
  go_enter Tryz.func59, Tryz.ntmps59
  go_wp2
  go_loopw [3, 13] (fun p i wr => ∃ k : Nat, k ≤ n ∧ i = .int .i64 k ∧ EachInv w base p0 (tc b) (.slice (some ⟨g, 0, none⟩) n cap) n (flat ls) p (eachTo ls b k).length (flat (eachTo ls b k)) wr ∧ (eachTo ls b k).length ≤ 16384) (fun _ i _ => n - (intOf i).toNat)
  case atStart => exact ⟨0, Nat.zero_le _, rfl, I0.out, by simp [eachTo]⟩
  case round =>
    obtain ⟨k, hk, rfl, inv, hlen⟩ := hrel
    have J0 := hid inv
    clear inv I0
    by_cases hlt : k < n
    · have HKL : Hid (k < ls.length) := by show _ < _; rw [← HN.out]; exact hlt
      obtain ⟨l, hl⟩ : ∃ l, l = ls.getD k [] := ⟨_, rfl⟩
      have hfl : ∀ j, j < 4 → wr.cell? ⟨g, k * 4 + j, none⟩ = (tc l)[j]? := fun j hj => by
        rw [J0.out.ownl.cellAt (k * 4 + j) (by omega), flat_get ls k HKL.out j hj, hl, nth_at HKL.out]
      have t0 : wr.cell? ⟨g, k * 4, none⟩ = some (.int .u64 (Cu.wd (Cu.fixAt l) 0 : Int)) := hfl 0 (by omega)
      have t1 : wr.cell? ⟨g, k * 4 + 1, none⟩ = some (.int .u64 (Cu.wd (Cu.fixAt l) 1 : Int)) := hfl 1 (by omega)
      have t2 : wr.cell? ⟨g, k * 4 + 2, none⟩ = some (.int .u64 (Cu.wd (Cu.oneAt l) 0 : Int)) := hfl 2 (by omega)
      have t3 : wr.cell? ⟨g, k * 4 + 3, none⟩ = some (.int .u64 (Cu.wd (Cu.oneAt l) 1 : Int)) := hfl 3 (by omega)
      obtain ⟨y0, y1, y2, y3⟩ := four_cell J0.out.u
      have hus : w.heap.size < wr.heap.size := J0.out.size
      have HR : Hid (Cu.right l = true ∧ l.length = width) := by
        show _ ∧ _; rw [hl, nth_at HKL.out]; exact HLS.out _ (List.getElem_mem HKL.out)
      have HSC : Hid (eachTo ls b (k + 1) = eachTo ls b k ++ Cu.cutL l b) := by
        show _ = _; rw [hl]; exact eachTo_succ ls b HKL.out
      have hcl : (Cu.cutL l b).length ≤ 128 := Cu.cutL_length HR.out.1
      clear hfl hl
      go_wp2_with fail
      refine (cut_any l b width u3 (eachTo ls b k).length (flat (eachTo ls b k)) base (wr.alloc (.cells (tc l) 108)) HR.out.1 HB.out (HR.out.2.trans HBW.out.symm) HR.out.2 (J0.out.own.alloc _) (by simp; omega) (by omega)).mono ?_
      rintro e w2 ⟨v2, rfl, hown2, hgr2, hat2⟩
      have JA := (J0.out.below ((Below.refl _ _).alloc (Nat.le_refl _) (.cells (tc l) 108)))
      have J1 := hid (JA.next hown2 hgr2 hat2)
      clear JA
      rw [← List.length_append, ← flat_append, ← HSC.out] at J1
      have hls2 : (eachTo ls b (k + 1)).length = (eachTo ls b k).length + (Cu.cutL l b).length := by rw [HSC.out, List.length_append]
      obtain ⟨ao, cp, hv2⟩ : ∃ ao cp, v2 = .slice ao (eachTo ls b (k + 1)).length cp := by
        rcases J1.out.own.2 with ⟨e, e2⟩ | ⟨g2, c2, _, e, _⟩
        · exact ⟨none, 0, by rw [e2]; exact e⟩
        · exact ⟨_, _, e⟩
      subst hv2
      obtain ⟨nx, hnx⟩ : ∃ nx, nx = (eachTo ls b (k + 1)).length := ⟨_, rfl⟩
      have HNX := hid hnx
      rw [← hnx]
      rw [← hnx] at J1 hls2
      have hnxle : nx ≤ 16512 := by omega
      clear hnx hls2 hown2 hgr2 hat2 t0 t1 t2 t3 y0 y1 y2 y3
      by_cases hbig : 16384 < nx
      · have hb2 : (16384 : Int) < (nx : Int) := by omega
        go_wp2
        go_ret
        have J2 := J1.out
        refine ⟨.slice ao nx cp, k + 1, rfl, hlt, Or.inr (by rw [← HNX.out]; exact hbig), ?_, J2.grown, ?_⟩
        · rw [← HNX.out]; exact J2.own
        · rcases J2.place with e | ⟨q, e, hq⟩
          · exact Or.inl e
          · exact Or.inr ⟨q, e, by omega⟩
      · have hb2 : ¬ (16384 : Int) < (nx : Int) := by omega
        go_wp2
        go_roundw
        case rel =>
          refine ⟨k + 1, by omega, by go_num, ?_, by rw [← HNX.out]; omega⟩
          rw [← HNX.out]
          exact J1.out
        case measure => simp [intOf]; omega
    · have hkn : k = n := by omega
      subst hkn
      go_wp2
      go_ret
      refine ⟨u3, k, rfl, Nat.le_refl _, Or.inl rfl, J0.out.own, J0.out.grown, ?_⟩
      rcases J0.out.place with e | ⟨q, e, hq⟩
      · exact Or.inl e
      · exact Or.inr ⟨q, e, by omega⟩
end Go.Proofs.YtipmlcdnfaobiaaGreat.Cub
namespace Go.Proofs.YtipmlcdnfaobiaaGreat.Cub
open Go.RowKit

set_option maxHeartbeats 400000 in
theorem cutEach_none (ao : Option Addr) (cap : Nat) (b : List UInt8) (width : Nat) (p0 : Value) (w : World) :
    Calls Tryz.prog 59 #[.slice ao 0 cap, tv b, .int .i64 (width : Int), p0] w fun e w' => e = .returned p0 ∧ w' = w.alloc (.cells (tc b) 108) := by
  go_enter Tryz.func59, Tryz.ntmps59
  go_wp2
  refine wp_loop_rounds 1 ?_
  rw [rounds_succ]
  go_wp2
  go_ret
  exact ⟨rfl, rfl⟩

theorem cutEach_all (ls : List (List UInt8)) (b : List UInt8) (width : Nat) (vl p0 : Value) (base : Nat) (w : World) (hb : Cu.right b = true) (hbw : b.length = width) (hls : ∀ l ∈ ls, Cu.right l = true ∧ l.length = width)
    (hownl : w.ownsRow base 108 4 vl ls.length (flat ls)) (hown : w.ownsRow base 108 4 p0 0 []) (hne : ∀ g, vl.ownBlock = some g → p0.ownBlock ≠ some g) (hbase : base ≤ w.heap.size) (hn : ls.length ≤ 16384) :
    Calls Tryz.prog 59 #[vl, tv b, .int .i64 (width : Int), p0] w fun e w' =>
      ∃ v' m, e = .returned v' ∧ m ≤ ls.length ∧ (m = ls.length ∨ 16384 < (eachTo ls b m).length) ∧ w'.ownsRow base 108 4 v' (eachTo ls b m).length (flat (eachTo ls b m)) ∧ w.grownBy w' p0.ownBlock ∧
      (v'.ownBlock = p0.ownBlock ∨ ∃ g, v'.ownBlock = some g ∧ w.heap.size ≤ g) := by
  have h0 := hownl
  rcases hownl.2 with ⟨e, e2⟩ | ⟨g, cap, cur, e, _⟩
  · subst e
    have : ls = [] := List.length_eq_zero_iff.1 e2
    subst this
    refine (cutEach_none none 0 b width p0 w).mono ?_
    rintro e w' ⟨rfl, rfl⟩
    exact ⟨p0, 0, rfl, Nat.le_refl _, Or.inl rfl, hown.alloc _, grown_of_below _ ((Below.refl _ _).alloc (Nat.le_refl _) _), Or.inl rfl⟩
  · subst e
    exact cutEach_any ls b width g cap p0 base w hb hbw hls h0 hown (hne g rfl) hbase hn

/-- What is left of c without the first k of several. -/
def leftTo (c : List UInt8) (ls : List (List UInt8)) : Nat → List (List UInt8)
  | 0 => [c]
  | k + 1 => (leftTo c ls k).flatMap fun l => Cu.cutL l (ls.getD k [])
theorem leftTo_succ (c : List UInt8) (ls : List (List UInt8)) (k : Nat) : leftTo c ls (k + 1) = eachTo (leftTo c ls k) (ls.getD k []) (leftTo c ls k).length := by
  rw [leftTo, eachTo, List.take_length]
def manyB (c : List UInt8) (ls : List (List UInt8)) : Bool := decide (∃ k, k ≤ ls.length ∧ 16384 < (leftTo c ls k).length)

theorem leftTo_right {c : List UInt8} {ls : List (List UInt8)} {width : Nat} (hc : Cu.right c = true ∧ c.length = width) (hl : ∀ i, i < ls.length → Cu.right (ls.getD i []) = true ∧ (ls.getD i []).length = width) :
    ∀ k, k ≤ ls.length → ∀ l ∈ leftTo c ls k, Cu.right l = true ∧ l.length = width
  | 0, _ => by intro l h; simp only [leftTo, List.mem_singleton] at h; subst h; exact hc
  | k + 1, hk => by
    intro l h
    rw [leftTo, List.mem_flatMap] at h
    obtain ⟨m, hm, hlm⟩ := h
    obtain ⟨r1, r2⟩ := leftTo_right hc hl k (by omega) m hm
    obtain ⟨s1, s2⟩ := hl k (by omega)
    obtain ⟨q1, q2⟩ := Cu.cutL_right r1 s1 (r2.trans s2.symm) l hlm
    exact ⟨q1, q2.trans r2⟩

theorem eachTo_mono (ls : List (List UInt8)) (b : List UInt8) (m : Nat) : (eachTo ls b m).length ≤ (eachTo ls b ls.length).length := by
  unfold eachTo
  rw [List.take_length]
  conv => rhs; rw [← List.take_append_drop m ls]
  rw [List.flatMap_append, List.length_append]
  omega

/-- A row of texts that may be appended: nil, or somewhere. -/
def Src (w : World) (v : Value) (ls : List (List UInt8)) : Prop :=
  (v = .slice none 0 0 ∧ ls = []) ∨ ∃ ad cap, v = .slice (some ad) ls.length cap ∧ ∀ j u, (svs ls)[j]? = some u → ad.block < w.heap.size ∧ w.cell? (ad.add j) = some u
theorem Src.below {w w' : World} {v : Value} {ls : List (List UInt8)} (h : Src w v ls) {B : Nat} (hb : Below B w w') (hB : w.heap.size ≤ B) : Src w' v ls := by
  rcases h with h | ⟨ad, cap, e, hc⟩
  · exact Or.inl h
  · refine Or.inr ⟨ad, cap, e, fun j u hj => ?_⟩
    obtain ⟨h1, h2⟩ := hc j u hj
    have hbk : (ad.add j).block = ad.block := by unfold Addr.add; split <;> rfl
    exact ⟨Nat.lt_of_lt_of_le h1 hb.size, by rw [hb.cell (by rw [hbk]; omega)]; exact h2⟩

/-- What holds in the rounds of Left. -/
structure LeftInv (w3 : World) (ls : List (List UInt8)) (v s : Value) (wr : World) : Prop where
  own : wr.ownsRow w3.heap.size 108 4 v ls.length (flat ls)
  spare : ∃ n xs, wr.ownsRow w3.heap.size 108 4 s n xs
  ne : ∀ g, v.ownBlock = some g → s.ownBlock ≠ some g
  below : Below w3.heap.size w3 wr

theorem LeftInv.next {w3 : World} {ls ls' : List (List UInt8)} {v s p0 v' : Value} {wr w5 : World} {o : Obj} (h : LeftInv w3 ls v s wr) (hp : p0.ownBlock = s.ownBlock)
    (hown : w5.ownsRow w3.heap.size 108 4 v' ls'.length (flat ls')) (hg : (wr.alloc o).drew.grownBy w5 p0.ownBlock) (hat : v'.ownBlock = p0.ownBlock ∨ ∃ g, v'.ownBlock = some g ∧ (wr.alloc o).drew.heap.size ≤ g) : LeftInv w3 ls' v' v w5 := {
  own := hown
  spare := ⟨_, _, (h.own.alloc o).drew.kept hg (by
    cases hv : v.ownBlock with
    | none => exact Or.inl rfl
    | some g => right; rw [hp]; exact fun e => h.ne g hv e.symm)⟩
  ne := by
    intro g hgv hvg
    rcases hat with e | ⟨q, e, hq⟩
    · rw [e, hp] at hgv
      exact h.ne g hvg hgv
    · rw [e] at hgv
      simp only [Option.some.injEq] at hgv
      have := (h.own.lt g hvg).2
      subst hgv
      simp at hq
      omega
  below := by
    have hs := h.below.size
    obtain ⟨n, xs, hsp⟩ := h.spare
    exact (h.below.alloc hs o).drew.grown hg (by simp; omega) (fun k hk => by rw [hp] at hk; exact (hsp.lt k hk).1) }

/-- The spare row, cut to nothing. -/
theorem spare_zero {w : World} {base g n cap : Nat} {xs : List Value} (h : w.ownsRow base 108 4 (.slice (some ⟨g, 0, none⟩) n cap) n xs) : w.ownsRow base 108 4 (.slice (some ⟨g, 0, none⟩) 0 cap) 0 [] := by
  rcases h.2 with ⟨e, _⟩ | ⟨g', cap', cur, e, hb, hg, hnc, hm, hs, _⟩
  · cases e
  · simp only [Value.slice.injEq, Option.some.injEq, Addr.mk.injEq, and_true, true_and] at e
    obtain ⟨rfl, rfl⟩ := e
    exact ⟨rfl, Or.inr ⟨g, cap, cur, rfl, hb, hg, Nat.zero_le _, hm, hs, by simp⟩⟩
end Go.Proofs.YtipmlcdnfaobiaaGreat.Cub
namespace Go.Proofs.YtipmlcdnfaobiaaGreat.Cub
open Go.RowKit
attribute [local go_sem ↓] Go.wp_at_zero Go.wp_at_succ

/-- append of a row of texts, nil or not. -/
theorem wpList_append_src {P : Program} (w : World) {ops : Array Oper} {rest : List Oper} {o : Oper} {a : Act} {Q : Exit → Act → World → Prop} (hgd : o.guard = none) (s x : Operand) (t : TypeId)
    (ho : o.op = .call { callee := .builtin .append, args := #[s, x], argTypes := #[t, t] })
    (base : Nat) (e : TypeId) (i : TypeInfo) (z : Value) (bytes : Nat) (ht : P.underlying t = some (.slice e)) (hi : P.info? e = some i) (hz : i.zero = some z)
    (hsize : i.size = 1) (hby : i.bytes = bytes) (hzs : z.cells.size = 1)
    (v : Value) (n : Nat) (xs : List Value) (hs : a.eval s = v) (hown : w.ownsRow base e 1 v n xs)
    (vx : Value) (ls : List (List UInt8)) (hx : a.eval x = vx) (hsrc : Src w vx ls)
    (h63 : n + ls.length ≤ maxLen) (hbytes : (n + ls.length) * bytes ≤ 140737488355328) (hbase : base ≤ w.heap.size)
    (h : ∀ v' w', w'.ownsRow base e 1 v' (n + ls.length) (xs ++ svs ls) → w.grownBy w' v.ownBlock → wpList P ops Q rest (a.put o.dst v') w') :
    wpList P ops Q (o :: rest) a w := by
  rcases hsrc with ⟨rfl, rfl⟩ | ⟨ad, cap, rfl, hc⟩
  · refine wpList_append_own_none hgd s x t ho base e i 1 ht hi v n xs hs hown hx ?_
    exact h v w (by simpa [svs] using hown) (grown_refl _ _)
  · refine wpList_append_own_at w hgd s x t ho base e i z 1 bytes ht hi hz hsize hby hzs (by decide) v n xs hs hown ad ls.length cap (svs ls) hx (by simp [svs]) (fun j u hj => (hc j u hj).2) (svs_one ls) h63 hbytes hbase ?_
    intro v' w' h1 h2 _ _
    exact h v' w' h1 h2

set_option maxHeartbeats 1000000 in
theorem Left_bad (c : ByteArray) (v : Value) (ls : List (List UInt8)) (w : World) (hs : Src w v ls) (hn : ls.length ≤ 4096) (he : errL (c.data.toList :: ls) ≠ 0) :
    Calls Tryz.prog 42 #[.string c, v] w fun e w' => e = .returned (.tuple #[.slice none 0 0, .int .i64 (errL (c.data.toList :: ls))]) ∧ Below w.heap.size w w' := by
  have hne : (errL (c.data.toList :: ls) != 0) = true := by rw [bne_iff_ne]; exact he
  have HE := hid he
  have HS := hid hs
  clear he hs
  obtain ⟨i0, hi, hz0, hz1, hz2⟩ := info_parts Tryz.infoString
  have HI := hid hi
  have HZ0 := hid hz0
  have HZ1 := hid hz1
  have HZ2 := hid hz2
  clear hi hz0 hz1 hz2
  have hO1 := hid (World.ownsRow_lit (e := 9) (size := 1) w #[.string c] 1 (Nat.le_refl _) (by unfold maxLen; omega) rfl)
  go_enter Tryz.func42, Tryz.ntmps42
  go_wp2_with (first | (at_builtin; refine wpList_append_src _ rfl (.tmp 15) (.tmp 16) 39 rfl w.heap.size 9 i0 (.string ByteArray.empty) 16 Tryz.underlying39 HI.out HZ0.out HZ1.out HZ2.out rfl _ 1 [.string c] rfl hO1.out v ls rfl (HS.out.below ((Below.refl _ _).alloc (Nat.le_refl _) _) (Nat.le_refl _)) ?d3 ?d4 ?d5 ?_))
  case d3 => unfold maxLen; omega
  case d4 => omega
  intro v2 w2 hown2 hgr2
  rw [sv_data c] at hown2
  have R2 : Hid (Row w2 v2 (c.data.toList :: ls)) := row_own (base := w.heap.size) (by rw [List.length_cons, Nat.add_comm]; exact hown2)
  have B2 : Hid (Below w.heap.size w w2) := ((Below.refl _ _).alloc (Nat.le_refl _) _).grown hgr2 (by simp) (fun k hk => by simp [Value.ownBlock] at hk; omega)
  clear hown2 hgr2
  go_wp2_with fail
  refine (read_bad (c.data.toList :: ls) v2 w2 R2.out (by simp; omega) HE.out).mono ?_
  rintro e w3 ⟨rfl, hb3⟩
  go_wp2
  go_ret2
  exact ⟨rfl, below2 B2.out hb3⟩

theorem slice_of {w : World} {base : Nat} {e : TypeId} {size : Nat} {v : Value} {n : Nat} {xs : List Value} (h : w.ownsRow base e size v n xs) : ∃ ao cap, v = .slice ao n cap := by
  rcases h.2 with ⟨e, e2⟩ | ⟨g, c, _, e, _⟩
  · exact ⟨none, 0, by rw [e2]; exact e⟩
  · exact ⟨_, _, e⟩

/-- The box of the round is kept by the call. -/
theorem box_kept {wr w5 : World} {base : Nat} {s p0 : Value} {b : List UInt8} (hs : ∃ n xs, wr.ownsRow base 108 4 s n xs) (hp : p0.ownBlock = s.ownBlock) (hg : (wr.alloc (.cells (tc b) 108)).drew.grownBy w5 p0.ownBlock) :
    w5.cell? ⟨wr.heap.size, 0, none⟩ = some (.int .u64 (Cu.wd (Cu.fixAt b) 0 : Int)) ∧ w5.cell? ⟨wr.heap.size, 1, none⟩ = some (.int .u64 (Cu.wd (Cu.fixAt b) 1 : Int)) ∧ w5.cell? ⟨wr.heap.size, 2, none⟩ = some (.int .u64 (Cu.wd (Cu.oneAt b) 0 : Int)) ∧ w5.cell? ⟨wr.heap.size, 3, none⟩ = some (.int .u64 (Cu.wd (Cu.oneAt b) 1 : Int)) := by
  obtain ⟨n, xs, h⟩ := hs
  refine four_cell (t := 108) ?_
  refine (hg.block wr.heap.size (by simp) ?_).trans (new_0 wr _)
  rw [hp]
  intro e
  have := (h.lt _ e.symm).2
  omega

theorem left_below {w w3 wr w5 : World} {ls : List (List UInt8)} {v s p0 : Value} {o : Obj} (h3 : Below w.heap.size w w3) (h : LeftInv w3 ls v s wr) (hp : p0.ownBlock = s.ownBlock) (hg : (wr.alloc o).drew.grownBy w5 p0.ownBlock) : Below w.heap.size w w5 := by
  have hs := h.below.size
  obtain ⟨n, xs, hsp⟩ := h.spare
  have h5 : Below w3.heap.size w3 w5 := (h.below.alloc hs o).drew.grown hg (by simp; omega) (fun k hk => by rw [hp] at hk; exact (hsp.lt k hk).1)
  exact below2 h3 h5

set_option maxHeartbeats 4000000 in
theorem Left_ok (c : ByteArray) (v : Value) (ls : List (List UInt8)) (w : World) (hs : Src w v ls) (hn : ls.length ≤ 4096) (he : errL (c.data.toList :: ls) = 0) (r : Int) (many : Bool) (hmany : manyB c.data.toList ls = many) (hr : r = if many = true then 3 else 0) :
    Calls Tryz.prog 42 #[.string c, v] w fun e w' => ∃ v', e = .returned (.tuple #[v', .int .i64 r]) ∧ (many = true → v' = .slice none 0 0) ∧ (many = false → Texts w' v' (leftTo c.data.toList ls ls.length)) ∧ Below w.heap.size w w' := by
  have HE := hid he
  have HS := hid hs
  have HMY := hid hmany
  have HRR := hid hr
  obtain ⟨e1, e2⟩ := errL_zero he
  have HC : Hid (Cu.right c.data.toList = true ∧ c.data.toList.length = c.size) := ⟨e1 0 (by simp), rfl⟩
  have HLS : Hid (∀ i, i < ls.length → Cu.right (ls.getD i []) = true ∧ (ls.getD i []).length = c.size) := fun i hi =>
    ⟨by have := e1 (i + 1) (by simp; omega); simpa using this, by have := e2 (i + 1) (by simp; omega); simpa using this⟩
  have HRT : Hid (∀ k, k ≤ ls.length → ∀ l ∈ leftTo c.data.toList ls k, Cu.right l = true ∧ l.length = c.size) := leftTo_right HC.out HLS.out
  clear he hs hmany hr e1 e2
  obtain ⟨i0, hi, hz0, hz1, hz2⟩ := info_parts Tryz.infoString
  have HI := hid hi
  have HZ0 := hid hz0
  have HZ1 := hid hz1
  have HZ2 := hid hz2
  clear hi hz0 hz1 hz2
  have hO1 := hid (World.ownsRow_lit (e := 9) (size := 1) w #[.string c] 1 (Nat.le_refl _) (by unfold maxLen; omega) rfl)
  go_enter Tryz.func42, Tryz.ntmps42
  go_wp2_with (first | (at_builtin; refine wpList_append_src _ rfl (.tmp 15) (.tmp 16) 39 rfl w.heap.size 9 i0 (.string ByteArray.empty) 16 Tryz.underlying39 HI.out HZ0.out HZ1.out HZ2.out rfl _ 1 [.string c] rfl hO1.out v ls rfl (HS.out.below ((Below.refl _ _).alloc (Nat.le_refl _) _) (Nat.le_refl _)) ?d3 ?d4 ?d5 ?_))
  case d3 => unfold maxLen; omega
  case d4 => omega
  intro v2 w2 hown2 hgr2
  rw [sv_data c] at hown2
  have R2 : Hid (Row w2 v2 (c.data.toList :: ls)) := row_own (base := w.heap.size) (by rw [List.length_cons, Nat.add_comm]; exact hown2)
  have B2 : Hid (Below w.heap.size w w2) := ((Below.refl _ _).alloc (Nat.le_refl _) _).grown hgr2 (by simp) (fun k hk => by simp [Value.ownBlock] at hk; omega)
  clear hown2 hgr2
  obtain ⟨n, hnn⟩ : ∃ n, n = ls.length := ⟨_, rfl⟩
  have HN := hid hnn
  go_wp2_with fail
  have q := read_ok (c.data.toList :: ls) v2 w2 R2.out (by simp) (by simp; omega) HE.out
  rw [List.length_cons, ← hnn] at q
  refine q.mono ?_
  clear q
  rw [← hnn] at hn
  clear hnn
  rintro e w3 ⟨rfl, ⟨cs, hg, hsz, hlie⟩, hb3⟩
  have HG := hid hg
  have B3 := hid (below2 B2.out hb3)
  obtain ⟨t0, t1, t2, t3⟩ := lie_four hg hlie (k := 0) (by omega)
  have hgs := lt_of_block hg
  clear hg hb3
  rw [Nat.zero_mul] at t0 t1 t2 t3
  have L0 : Hid (by_ (nth (c.data.toList :: ls)) 0 = c.data.toList) := rfl
  rw [L0.out] at t0 t1 t2 t3
  have L1 : Hid (∀ k, by_ (nth (c.data.toList :: ls)) (k + 1) = ls.getD k []) := fun k => rfl
  have HO1 := hid (World.ownsRow_lit (e := 108) (size := 4) w3 (tc c.data.toList) 1 (Nat.le_refl _) (by unfold maxLen; omega) rfl)
  have I0 : Hid (LeftInv w3 (leftTo c.data.toList ls 0) (.slice (some ⟨w3.heap.size, 0, none⟩) 1 1) (.slice none 0 0) (w3.alloc (.cells (tc c.data.toList) 108))) :=
    ⟨by rw [leftTo, flat_one]; exact HO1.out, ⟨0, [], World.ownsRow_nil _ _ _ _⟩, fun g _ => by simp [Value.ownBlock], (Below.refl _ _).alloc (Nat.le_refl _) _⟩
  by_cases hn0 : n = 0
  · subst hn0
    have hls : ls = [] := List.length_eq_zero_iff.1 HN.out.symm
    have HMF : Hid (many = false) := by
      show _ = _
      rw [← HMY.out, hls]
      refine decide_eq_false ?_
      rintro ⟨k, hk, h⟩
      have : k = 0 := by simpa using hk
      subst this
      simp [leftTo] at h
    have HLT : Hid (leftTo c.data.toList ls ls.length = [c.data.toList]) := by show _ = _; rw [hls]; rfl
    clear hls
    go_wp2
    refine wp_loop_rounds 1 ?_
    rw [rounds_succ]
    go_wp2_with fail
    have q := texts_own [c.data.toList] (.slice (some ⟨w3.heap.size, 0, none⟩) 1 1) w3.heap.size 1 c.size (w3.alloc (.cells (tc c.data.toList) 108)) (by rw [flat_one]; exact HO1.out) rfl (by omega) (fun l hl => by rw [List.mem_singleton] at hl; subst hl; exact HC.out)
    refine q.mono ?_
    clear q
    rintro e w4 ⟨v4, rfl, ht4, hb4⟩
    have HT4 := hid ht4
    clear ht4
    go_wp2
    go_ret2
    refine ⟨v4, ?_, (fun h => by rw [HMF.out] at h; cases h), fun _ => by rw [HLT.out]; exact HT4.out, below2 B3.out (((Below.refl _ _).alloc (Nat.le_refl _) _).trans (hb4.mono (by simp)))⟩
    rw [HRR.out, HMF.out]; rfl
  · have hcap : ¬ (n + 1 = 1) := by omega
    go_wp2
    go_loopw [8, 9, 31] (fun p s i wr => ∃ k : Nat, k ≤ n ∧ i = .int .i64 k ∧ LeftInv w3 (leftTo c.data.toList ls k) p s wr ∧ Hid (∀ j, j ≤ k → (leftTo c.data.toList ls j).length ≤ 16384)) (fun _ _ i _ => n - (intOf i).toNat)
    case atStart =>
      refine ⟨0, Nat.zero_le _, rfl, I0.out, fun j hj => ?_⟩
      have e : j = 0 := by omega
      subst e
      simp [leftTo]
    case round =>
      obtain ⟨k, hk, rfl, inv, HSM⟩ := hrel
      have J0 := hid inv
      clear inv I0 t0 t1 t2 t3
      have hws := J0.out.below.size
      have HKL : Hid (k ≤ ls.length) := by show _ ≤ _; rw [← HN.out]; exact hk
      by_cases hlt : k < n
      · obtain ⟨b, hb⟩ : ∃ b, b = ls.getD k [] := ⟨_, rfl⟩
        have HBR : Hid (Cu.right b = true ∧ b.length = c.size) := by show _ ∧ _; rw [hb]; exact HLS.out k (by rw [← HN.out]; exact hlt)
        have HLN : Hid (leftTo c.data.toList ls (k + 1) = eachTo (leftTo c.data.toList ls k) b (leftTo c.data.toList ls k).length) := by show _ = _; rw [hb]; exact leftTo_succ _ _ _
        obtain ⟨y0, y1, y2, y3⟩ := lie_four (below_block J0.out.below HG.out hgs) hlie (k := k + 1) (by omega)
        rw [L1.out, ← hb] at y0 y1 y2 y3
        rw [show (k + 1) * 4 = 4 + k * 4 from by omega] at y0 y1 y2 y3
        clear hb
        obtain ⟨ns, xs9, hsp⟩ := J0.out.spare
        rcases hsp.2 with ⟨e9, e9'⟩ | ⟨gs, caps, cur, e9, _⟩
        · subst e9
          clear hsp e9'
          go_wp2_with fail
          go_region_held3 (fun w' => w'.cell? ⟨wr.heap.size, 0, none⟩ = some (.int .u64 (Cu.wd (Cu.fixAt b) 0 : Int)) ∧ w'.cell? ⟨wr.heap.size, 1, none⟩ = some (.int .u64 (Cu.wd (Cu.fixAt b) 1 : Int)) ∧ w'.cell? ⟨wr.heap.size, 2, none⟩ = some (.int .u64 (Cu.wd (Cu.oneAt b) 0 : Int)) ∧ w'.cell? ⟨wr.heap.size, 3, none⟩ = some (.int .u64 (Cu.wd (Cu.oneAt b) 1 : Int))) (first | (go_keep; done) | exact hbx) (first | (go_at_call 59; refine (cutEach_all (leftTo c.data.toList ls k) b c.size u8 (.slice none 0 0) w3.heap.size _ HBR.out.1 HBR.out.2 (HRT.out k HKL.out) (by exact (J0.out.own.alloc _).drew) (World.ownsRow_nil _ _ _ _) (fun _ _ => by simp [Value.ownBlock]) (by simp; omega) (HSM.out k (Nat.le_refl _))).mono ?_; rintro e w5 ⟨v5, m5, rfl, hm5, hor5, hown5, hgr5, hat5⟩; have hbx := box_kept (J0.out.spare) (by exact rfl) hgr5; obtain ⟨ao5, cp5, hv5⟩ := slice_of hown5; subst hv5))
          obtain ⟨nx, hnx⟩ : ∃ nx, nx = (eachTo (leftTo c.data.toList ls k) b m5).length := ⟨_, rfl⟩
          have HNX := hid hnx
          rw [← hnx]
          clear hnx
          by_cases hbig : (leftTo c.data.toList ls (k + 1)).length ≤ 16384
          · have hm : m5 = (leftTo c.data.toList ls k).length := by
              rcases hor5 with e | e
              · exact e
              · exfalso
                have := eachTo_mono (leftTo c.data.toList ls k) b m5
                rw [HLN.out] at hbig
                omega
            have HO5 : Hid (w5.ownsRow w3.heap.size 108 4 (.slice ao5 nx cp5) (leftTo c.data.toList ls (k + 1)).length (flat (leftTo c.data.toList ls (k + 1)))) := by
              show World.ownsRow _ _ _ _ _ _ _
              rw [HLN.out, HNX.out]
              rw [hm] at hown5 ⊢
              exact hown5
            have hnx2 : ¬ (16384 : Int) < (nx : Int) := by
              have : nx = (leftTo c.data.toList ls (k + 1)).length := by rw [HNX.out, hm, HLN.out]
              omega
            have J1 : Hid (LeftInv w3 (leftTo c.data.toList ls (k + 1)) (.slice ao5 nx cp5) u8 w5) := J0.out.next (p0 := .slice none 0 0) rfl HO5.out hgr5 (by rw [HNX.out]; exact hat5)
            have HBG := hid hbig
            clear hm hor5 hm5 hown5 hgr5 hat5 hbig hbx
            go_wp2
            go_roundw
            case rel =>
              refine ⟨k + 1, by omega, by go_num, J1.out, fun j hj => ?_⟩
              by_cases e : j = k + 1
              · rw [e]; exact HBG.out
              · exact HSM.out j (by omega)
            case measure => simp [intOf]; omega
          · have hnx2 : (16384 : Int) < (nx : Int) := by
              rcases hor5 with e | e
              · have : nx = (leftTo c.data.toList ls (k + 1)).length := by rw [HNX.out, e, HLN.out]
                omega
              · rw [← HNX.out] at e; omega
            have HMT : Hid (many = true) := by
              show _ = _
              rw [← HMY.out]
              exact decide_eq_true ⟨k + 1, by have := HN.out; omega, by omega⟩
            have B5 : Hid (Below w.heap.size w w5) := left_below B3.out J0.out rfl hgr5
            clear hor5 hm5 hown5 hgr5 hat5 hbig hbx
            go_wp2
            go_ret2
            refine ⟨.slice none 0 0, ?_, fun _ => rfl, (fun h => by rw [HMT.out] at h; cases h), B5.out⟩
            rw [HRR.out, HMT.out]; rfl
        · subst e9
          have HSP := hid hsp
          clear hsp
          go_wp2_with fail
          go_region_held3 (fun w' => w'.cell? ⟨wr.heap.size, 0, none⟩ = some (.int .u64 (Cu.wd (Cu.fixAt b) 0 : Int)) ∧ w'.cell? ⟨wr.heap.size, 1, none⟩ = some (.int .u64 (Cu.wd (Cu.fixAt b) 1 : Int)) ∧ w'.cell? ⟨wr.heap.size, 2, none⟩ = some (.int .u64 (Cu.wd (Cu.oneAt b) 0 : Int)) ∧ w'.cell? ⟨wr.heap.size, 3, none⟩ = some (.int .u64 (Cu.wd (Cu.oneAt b) 1 : Int))) (first | (go_keep; done) | exact hbx) (first | (go_at_call 59; refine (cutEach_all (leftTo c.data.toList ls k) b c.size u8 (.slice (some ⟨gs, 0, none⟩) 0 caps) w3.heap.size _ HBR.out.1 HBR.out.2 (HRT.out k HKL.out) (by exact (J0.out.own.alloc _).drew) (by exact ((spare_zero HSP.out).alloc _).drew) (fun q hq => by have := J0.out.ne q hq; simpa [Value.ownBlock] using this) (by simp; omega) (HSM.out k (Nat.le_refl _))).mono ?_; rintro e w5 ⟨v5, m5, rfl, hm5, hor5, hown5, hgr5, hat5⟩; have hbx := box_kept (J0.out.spare) (by exact rfl) hgr5; obtain ⟨ao5, cp5, hv5⟩ := slice_of hown5; subst hv5))
          obtain ⟨nx, hnx⟩ : ∃ nx, nx = (eachTo (leftTo c.data.toList ls k) b m5).length := ⟨_, rfl⟩
          have HNX := hid hnx
          rw [← hnx]
          clear hnx
          by_cases hbig : (leftTo c.data.toList ls (k + 1)).length ≤ 16384
          · have hm : m5 = (leftTo c.data.toList ls k).length := by
              rcases hor5 with e | e
              · exact e
              · exfalso
                have := eachTo_mono (leftTo c.data.toList ls k) b m5
                rw [HLN.out] at hbig
                omega
            have HO5 : Hid (w5.ownsRow w3.heap.size 108 4 (.slice ao5 nx cp5) (leftTo c.data.toList ls (k + 1)).length (flat (leftTo c.data.toList ls (k + 1)))) := by
              show World.ownsRow _ _ _ _ _ _ _
              rw [HLN.out, HNX.out]
              rw [hm] at hown5 ⊢
              exact hown5
            have hnx2 : ¬ (16384 : Int) < (nx : Int) := by
              have : nx = (leftTo c.data.toList ls (k + 1)).length := by rw [HNX.out, hm, HLN.out]
              omega
            have J1 : Hid (LeftInv w3 (leftTo c.data.toList ls (k + 1)) (.slice ao5 nx cp5) u8 w5) := J0.out.next (p0 := .slice (some ⟨gs, 0, none⟩) 0 caps) rfl HO5.out hgr5 (by rw [HNX.out]; exact hat5)
            have HBG := hid hbig
            clear hm hor5 hm5 hown5 hgr5 hat5 hbig hbx
            go_wp2
            go_roundw
            case rel =>
              refine ⟨k + 1, by omega, by go_num, J1.out, fun j hj => ?_⟩
              by_cases e : j = k + 1
              · rw [e]; exact HBG.out
              · exact HSM.out j (by omega)
            case measure => simp [intOf]; omega
          · have hnx2 : (16384 : Int) < (nx : Int) := by
              rcases hor5 with e | e
              · have : nx = (leftTo c.data.toList ls (k + 1)).length := by rw [HNX.out, e, HLN.out]
                omega
              · rw [← HNX.out] at e; omega
            have HMT : Hid (many = true) := by
              show _ = _
              rw [← HMY.out]
              exact decide_eq_true ⟨k + 1, by have := HN.out; omega, by omega⟩
            have B5 : Hid (Below w.heap.size w w5) := left_below B3.out J0.out rfl hgr5
            clear hor5 hm5 hown5 hgr5 hat5 hbig hbx
            go_wp2
            go_ret2
            refine ⟨.slice none 0 0, ?_, fun _ => rfl, (fun h => by rw [HMT.out] at h; cases h), B5.out⟩
            rw [HRR.out, HMT.out]; rfl
      · have hkn : k = n := by omega
        subst hkn
        have HMF : Hid (many = false) := by
          show _ = _
          rw [← HMY.out]
          refine decide_eq_false ?_
          rintro ⟨j, hj, h⟩
          have := HSM.out j (by rw [HN.out]; exact hj)
          omega
        have HTO := hid (J0.out.own)
        rw [HN.out] at HTO
        go_wp2_with fail
        have q := texts_own (leftTo c.data.toList ls ls.length) u8 w3.heap.size _ c.size wr HTO.out rfl (Nat.le_trans (HSM.out ls.length (by rw [← HN.out]; exact Nat.le_refl _)) (by omega)) (HRT.out ls.length (Nat.le_refl _))
        refine q.mono ?_
        clear q
        rintro e w4 ⟨v4, rfl, ht4, hb4⟩
        have HT4 := hid ht4
        clear ht4
        go_wp2
        go_ret2
        refine ⟨v4, ?_, (fun h => by rw [HMF.out] at h; cases h), fun _ => HT4.out, (B3.out.trans (J0.out.below.mono B3.out.size)).trans (hb4.mono (Nat.le_trans B3.out.size hws))⟩
        rw [HRR.out, HMF.out]; rfl
end Go.Proofs.YtipmlcdnfaobiaaGreat.Cub
namespace Go.Proofs.YtipmlcdnfaobiaaGreat.Cub
open Go.RowKit

/-- What Left answers. -/
def errA (c : ByteArray) (ls : List (List UInt8)) : Int := if errL (c.data.toList :: ls) = 0 then (if manyB c.data.toList ls = true then 3 else 0) else errL (c.data.toList :: ls)
def leftR (c : ByteArray) (ls : List (List UInt8)) : List (List UInt8) := if errA c ls = 0 then leftTo c.data.toList ls ls.length else []

theorem errA_zero {c : ByteArray} {ls : List (List UInt8)} (h : errA c ls = 0) : errL (c.data.toList :: ls) = 0 ∧ manyB c.data.toList ls = false := by
  unfold errA at h
  split at h
  · rename_i h1
    split at h
    · cases h
    · rename_i h2
      exact ⟨h1, by simpa using h2⟩
  · rename_i h1
    exact absurd h h1

theorem Left_any (c : ByteArray) (v : Value) (ls : List (List UInt8)) (w : World) (hs : Src w v ls) (hn : ls.length ≤ 4096) :
    Calls Tryz.prog 42 #[.string c, v] w fun e w' => ∃ v', e = .returned (.tuple #[v', .int .i64 (errA c ls)]) ∧ Row w' v' (leftR c ls) ∧ Below w.heap.size w w' := by
  by_cases he : errL (c.data.toList :: ls) = 0
  · rcases bool_two (manyB c.data.toList ls) with hm | hm
    · have e1 : errA c ls = 0 := by simp [errA, he, hm]
      have e2 : leftR c ls = leftTo c.data.toList ls ls.length := by simp [leftR, e1]
      rw [e1, e2]
      refine (Left_ok c v ls w hs hn he 0 false hm rfl).mono ?_
      rintro e w' ⟨v', rfl, _, h2, hb⟩
      exact ⟨v', rfl, (h2 rfl).row, hb⟩
    · have e1 : errA c ls = 3 := by simp [errA, he, hm]
      have e2 : leftR c ls = [] := by simp [leftR, e1]
      rw [e1, e2]
      refine (Left_ok c v ls w hs hn he 3 true hm rfl).mono ?_
      rintro e w' ⟨v', rfl, h1, _, hb⟩
      have := h1 rfl
      subst this
      exact ⟨_, rfl, Row.nil _, hb⟩
  · have e1 : errA c ls = errL (c.data.toList :: ls) := by simp [errA, he]
    have e2 : leftR c ls = [] := by simp [leftR, e1, he]
    rw [e1, e2]
    refine (Left_bad c v ls w hs hn he).mono ?_
    rintro e w' ⟨rfl, hb⟩
    exact ⟨_, rfl, Row.nil _, hb⟩

theorem in_cutL {l b : List UInt8} {h : ByteArray} (hl : Cu.right l = true) (hb : Cu.right b = true) (hlb : l.length = b.length) (hx : hasX h = false) (hh : Cu.right h.data.toList = true) (hs : l.length = h.size) :
    inB (Cu.cutL l b) h = (hasB ⟨l.toArray⟩ h && !hasB ⟨b.toArray⟩ h) := by
  have e1 : errH ⟨l.toArray⟩ h = 0 := by
    unfold errH; rw [hx, if_neg (by simp)]
    exact err2_of hh (by simpa using hl) (by show h.size = l.toArray.size; simp [hs])
  have e2 : errH ⟨b.toArray⟩ h = 0 := by
    unfold errH; rw [hx, if_neg (by simp)]
    exact err2_of hh (by simpa using hb) (by show h.size = b.toArray.size; simp [← hlb, hs])
  have e0 : err2 ⟨l.toArray⟩ ⟨b.toArray⟩ = 0 := err2_of (by simpa using hl) (by simpa using hb) (by show l.toArray.size = b.toArray.size; simp [hlb])
  have := in_cut e0 e1 e2
  simpa using this

theorem inB_flatMap (ls : List (List UInt8)) (b : List UInt8) (h : ByteArray) (width : Nat) (hb : Cu.right b = true ∧ b.length = width) (hls : ∀ l ∈ ls, Cu.right l = true ∧ l.length = width) (hx : hasX h = false) (hh : Cu.right h.data.toList = true) (hw : width = h.size) :
    inB (ls.flatMap fun l => Cu.cutL l b) h = (inB ls h && !hasB ⟨b.toArray⟩ h) := by
  induction ls with
  | nil => rfl
  | cons l ls ih =>
    have h1 := hls l (by simp)
    have ih' := ih (fun m hm => hls m (by simp [hm]))
    have hc := in_cutL h1.1 hb.1 (h1.2.trans hb.2.symm) hx hh (h1.2.trans hw)
    unfold inB at ih' hc ⊢
    rw [List.flatMap_cons, List.any_append, hc, ih', List.any_cons]
    cases hasB ⟨b.toArray⟩ h <;> simp

theorem take_any (ls : List (List UInt8)) (h : ByteArray) {k : Nat} (hk : k < ls.length) : inB (ls.take (k + 1)) h = (inB (ls.take k) h || hasB ⟨(ls.getD k []).toArray⟩ h) := by
  unfold inB
  rw [List.take_succ_eq_append_getElem hk, List.any_append, nth_at hk]
  simp

/-- P1.7. -/
theorem in_left {c h : ByteArray} {ls : List (List UInt8)} (he : errL (c.data.toList :: ls) = 0) (hh : errH c h = 0) : ∀ k, k ≤ ls.length → inB (leftTo c.data.toList ls k) h = (hasB c h && !inB (ls.take k) h) := by
  obtain ⟨e1, e2⟩ := errL_zero he
  obtain ⟨hx, e3⟩ := errH_zero hh
  obtain ⟨hr, _, hsz⟩ := err2_zero e3
  have hc : Cu.right c.data.toList = true ∧ c.data.toList.length = c.size := ⟨e1 0 (by simp), rfl⟩
  have hls : ∀ i, i < ls.length → Cu.right (ls.getD i []) = true ∧ (ls.getD i []).length = c.size := fun i hi =>
    ⟨by have := e1 (i + 1) (by simp; omega); simpa using this, by have := e2 (i + 1) (by simp; omega); simpa using this⟩
  intro k
  induction k with
  | zero =>
    intro _
    show inB [c.data.toList] h = (hasB c h && !inB [] h)
    unfold inB
    have : (⟨c.data.toList.toArray⟩ : ByteArray) = c := by rw [Array.toArray_toList]
    simp [this]
  | succ k ih =>
    intro hk
    have hk' : k < ls.length := by omega
    rw [leftTo, inB_flatMap _ _ h c.size (hls k hk') (leftTo_right hc hls k (by omega)) hx hr hsz.symm, ih (by omega), take_any ls h hk']
    cases hasB c h <;> cases inB (ls.take k) h <;> simp

theorem in_leftR {c h : ByteArray} {ls : List (List UInt8)} (he : errA c ls = 0) (hh : errH c h = 0) : inB (leftR c ls) h = (hasB c h && !inB ls h) := by
  have e : leftR c ls = leftTo c.data.toList ls ls.length := by simp [leftR, he]
  rw [e, in_left (errA_zero he).1 hh ls.length (Nat.le_refl _), List.take_length]

end Go.Proofs.YtipmlcdnfaobiaaGreat.Cub
namespace Go.Proofs.YtipmlcdnfaobiaaGreat.Cub
open Go.RowKit

/-- The texts of a slice, up to k, as lists of bytes. -/
def tak (ss : List ByteArray) (k : Nat) : List (List UInt8) := (ss.take k).map fun s => s.data.toList
theorem tak_length {ss : List ByteArray} {k : Nat} (h : k ≤ ss.length) : (tak ss k).length = k := by simp [tak]; omega
theorem tak_at {ss : List ByteArray} {k i : Nat} (hk : k ≤ ss.length) (hi : i < k) : (tak ss k)[i]'(by rw [tak_length hk]; exact hi) = (ss.getD i ByteArray.empty).data.toList := by
  have hi' : i < ss.length := by omega
  simp [tak, List.getD_eq_getElem?_getD, List.getElem?_eq_getElem hi']

theorem addr_add (g o i : Nat) : (⟨g, o, none⟩ : Addr).add i = ⟨g, o + i, none⟩ := by
  unfold Addr.add; split <;> simp_all

theorem addr_of {w : World} {a : Addr} {v : Value} (h : w.cell? (a.add 0) = some v) : (∃ g o, a = ⟨g, o, none⟩) ∧ a.block < w.heap.size := by
  have e : a.add 0 = a := by unfold Addr.add; simp
  rw [e] at h
  obtain ⟨g, o, sp⟩ := a
  have hlt : g < w.heap.size := by
    unfold World.cell? at h
    cases hh : w.heap[g]? with
    | none => simp [hh] at h
    | some x => exact lt_of_block hh
  refine ⟨?_, hlt⟩
  cases sp with
  | none => exact ⟨g, o, rfl⟩
  | some s =>
    exfalso
    unfold World.cell? at h
    simp only [Option.isSome_some, if_true] at h
    split at h <;> cases h

theorem view_row {w : World} {a : Addr} {ss : List ByteArray} {k cap : Nat} (hk : k ≤ ss.length) (hc : ∀ i, i < ss.length → w.cell? (a.add i) = some (.string (ss.getD i ByteArray.empty))) : Row w (.slice (some a) k cap) (tak ss k) := by
  refine ⟨some a, cap, by rw [tak_length hk], ?_⟩
  by_cases h0 : k = 0
  · subst h0; exact Or.inl rfl
  · obtain ⟨⟨g, o, rfl⟩, hb⟩ := addr_of (hc 0 (by omega))
    refine Or.inr ⟨g, o, rfl, hb, fun i hi => ?_⟩
    rw [tak_length hk] at hi
    have := hc i (by omega)
    rw [addr_add] at this
    rw [this, tak_at hk hi, sv_data]
theorem view_src {w : World} {a : Addr} {ss : List ByteArray} {k cap : Nat} (hk : k ≤ ss.length) (hc : ∀ i, i < ss.length → w.cell? (a.add i) = some (.string (ss.getD i ByteArray.empty))) : Src w (.slice (some a) k cap) (tak ss k) := by
  refine Or.inr ⟨a, cap, by rw [tak_length hk], fun j u hj => ?_⟩
  have hjk : j < k := by
    obtain ⟨h, _⟩ := List.getElem?_eq_some_iff.1 hj
    simp [svs, tak_length hk] at h
    exact h
  refine ⟨(addr_of (hc 0 (by omega))).2, ?_⟩
  rw [hc j (by omega), ← hj, sv_data]
  have : (svs (tak ss k))[j]? = some (sv ((tak ss k)[j]'(by rw [tak_length hk]; exact hjk))) := by
    simp [svs, List.getElem?_eq_getElem (show j < (tak ss k).length by rw [tak_length hk]; exact hjk)]
  rw [this, tak_at hk hjk]

/-- What is known of a slice of texts that came in. -/
def Came (w : World) (a0 : Option Addr) (len cap : Nat) (ss : List ByteArray) : Prop :=
  (a0 = none ∧ len = 0 ∧ cap = 0 ∧ ss = []) ∨ ∃ a, a0 = some a ∧ len ≤ cap ∧ cap ≤ maxLen ∧ ss.length = cap ∧ (∀ i, i < ss.length → w.cell? (a.add i) = some (.string (ss.getD i ByteArray.empty))) ∧ ∀ s ∈ ss, s.size ≤ maxLen

end Go.Proofs.YtipmlcdnfaobiaaGreat.Cub
