/-
  The document's Same of any two topologies.
  The document's Same of two topologies, exactly; its Texts.
  The document's Who.
  The document's Near of any links.
-/
import Derived.Test.YtebaopiedlioiaaGreatDoorJCopyAnd
import Derived.Test.YtebaopiedlioiaaGreatDoorJDocXAnd
import Derived.Test.YtebaopiedlioiaaGreatDoorJInsAnd
import Derived.Deep.RegionHeld3
import Derived.Test.YtebaopiedlioiaaGreatDoorJDocKAnd
import Derived.Test.YtebaopiedlioiaaGreatDoorJParBAnd
namespace Go.Proofs.YtebaopiedlioiaaGreatDoor
open Go.RowKit

/-- One link more, the document's way. -/
def nrS (d : Int) (l : List Int) (x : LkZ) : List Int := if x.2.2.1 = d then numD x.1 (if x.1 = d then numD x.2.2.1 l else l) else (if x.1 = d then numD x.2.2.1 l else l)
/-- The devices next to one, the document's way. -/
def nrF (d : Int) (ls : List LkZ) : List Int := ls.foldl (nrS d) []
theorem nrF_snoc (d : Int) {ls : List LkZ} {k : Nat} {x : LkZ} (h : ls[k]? = some x) : nrF d (ls.take (k + 1)) = nrS d (nrF d (ls.take k)) x := by
  have hk := (List.getElem?_eq_some_iff.1 h).1
  have hg : ls[k] = x := by rw [List.getElem?_eq_getElem hk] at h; exact Option.some.inj h
  rw [List.take_succ_eq_append_getElem hk, hg]
  unfold nrF
  rw [List.foldl_append]
  rfl
theorem nrS_len (d : Int) (l : List Int) (x : LkZ) : (nrS d l x).length ≤ l.length + 2 := by
  have h1 := numD_len x.2.2.1 l
  have h2 := numD_len x.1 (numD x.2.2.1 l)
  have h3 := numD_len x.1 l
  unfold nrS
  split <;> split <;> omega
theorem nrF_len (d : Int) (ls : List LkZ) : ∀ l : List Int, (ls.foldl (nrS d) l).length ≤ l.length + 2 * ls.length := by
  induction ls with
  | nil => intro l; simp
  | cons x r ih =>
    intro l
    have := ih (nrS d l x)
    have := nrS_len d l x
    simp only [List.foldl_cons, List.length_cons]
    omega
theorem nrS_rise {d : Int} {l : List Int} (x : LkZ) (h : l.Pairwise (· < ·)) : (nrS d l x).Pairwise (· < ·) := by
  unfold nrS
  split <;> split
  · exact numD_rise (numD_rise h)
  · exact numD_rise h
  · exact numD_rise h
  · exact h
theorem nrS_mem {d : Int} {l : List Int} (x : LkZ) (z : Int) : z ∈ nrS d l x ↔ z ∈ l ∨ z ∈ (if x.1 = d then [x.2.2.1] else []) ++ (if x.2.2.1 = d then [x.1] else []) := by
  unfold nrS
  by_cases h1 : x.2.2.1 = d <;> by_cases h2 : x.1 = d <;> simp only [h1, h2, if_true, if_false, numD_mem, List.append_nil, List.nil_append, List.mem_append, List.mem_singleton, List.not_mem_nil, or_false]
  · constructor
    · rintro (h | h | h)
      · exact .inr (.inr h)
      · exact .inr (.inl h)
      · exact .inl h
    · rintro (h | h | h)
      · exact .inr (.inr h)
      · exact .inr (.inl h)
      · exact .inl h
  · exact or_comm
  · exact or_comm
theorem nrF_spec (d : Int) (ls : List LkZ) : ∀ l : List Int, l.Pairwise (· < ·) → (ls.foldl (nrS d) l).Pairwise (· < ·) ∧ ∀ z, z ∈ ls.foldl (nrS d) l ↔ z ∈ l ∨ z ∈ nearL d ls := by
  induction ls with
  | nil => intro l h; exact ⟨h, fun z => by simp [nearL]⟩
  | cons x r ih =>
    intro l h
    obtain ⟨h1, h2⟩ := ih (nrS d l x) (nrS_rise x h)
    refine ⟨h1, fun z => ?_⟩
    rw [List.foldl_cons, h2, nrS_mem]
    unfold nearL
    rw [List.flatMap_cons, List.mem_append (s := (if x.1 = d then [x.2.2.1] else []) ++ (if x.2.2.1 = d then [x.1] else [])), or_assoc]
theorem nrF_nearS (d : Int) (ls : List LkZ) : nrF d ls = nearS d ls := by
  obtain ⟨h1, h2⟩ := nrF_spec d ls [] List.Pairwise.nil
  obtain ⟨h3, h4⟩ := nearS_spec d ls
  exact rise_eq h1 h3 fun x => by rw [show nrF d ls = ls.foldl (nrS d) [] from rfl, h2, h4]; simp

/-- The devices that were met among the first links, the document's way. -/
structure NrD (W0 : World) (d : Int) (ls : List LkZ) (k : Nat) (v : Value) (wr : World) : Prop where
  row : wr.ownsRow W0.heap.size 3 1 v (nrF d (ls.take k)).length (numsD (nrF d (ls.take k)))
  below : Below W0.heap.size W0 wr
theorem Below.overN {a b : World} {B C : Nat} {W : World} (hB : B ≤ C) (h1 : Below B W a) (hs : C ≤ a.heap.size) (h2 : Below a.heap.size a b) : Below B W b :=
  ⟨h2.os.trans h1.os, h2.tape.trans h1.tape, h2.output.trans h1.output, Nat.le_trans h1.size h2.size, fun i hi => (h2.block i (by omega)).trans (h1.block i hi)⟩

set_option maxRecDepth 20000 in
set_option maxHeartbeats 2000000 in
theorem RNear_any {w : World} {x0 x1 v : Value} {ls : List LkZ} (hL : LkV w v ls) (d : Int) (hlen : ls.length ≤ 400000) :
    Calls Tryz.prog 26 #[.agg #[x0, x1, v], .int .i64 d] w fun e w' => (∃ v, e = .returned v ∧ NumsV w' v (nearS d ls)) ∧ Below w.heap.size w w' := by
  obtain ⟨av, cap, rfl, hcell⟩ := hL.form
  obtain ⟨n, hn⟩ : ∃ n, ls.length = n := ⟨_, rfl⟩
  have HC := hid hcell
  have HN := hid hn
  rw [hn] at hlen ⊢
  obtain ⟨W0, hW0⟩ : ∃ W0, W0 = w.alloc (topJ x0 x1 (.slice av n cap)) := ⟨_, rfl⟩
  have h0 : W0.heap[w.heap.size]? = some (topJ x0 x1 (.slice av n cap)) := by rw [hW0]; exact new_0 _ _
  have HB0 := hid (show Below w.heap.size w W0 from by rw [hW0]; exact (Below.refl _ _).alloc (Nat.le_refl _) _)
  have hs0 : w.heap.size < W0.heap.size := lt_of_block h0
  have H0 := hid h0
  obtain ⟨b0, hb0⟩ : ∃ b0, b0 = w.heap.size := ⟨_, rfl⟩
  have HBB := hid hb0
  have HNM := hid (fun (W : World) (v : Value) (zs : List Int) (s : Int) (h : W.ownsRow W0.heap.size 3 1 v zs.length (numsD zs)) (hB : W0.heap.size ≤ W.heap.size) (hn : zs.length ≤ 1000000) => Rnumber_any (s := s) h hB hn)
  clear hcell hn hL h0
  have I0 := hid (show NrD W0 d ls 0 (.slice none 0 0) W0 from ⟨World.ownsRow_nil _ _ _ _, Below.refl _ _⟩)
  go_enter Tryz.func26, Tryz.ntmps26
  go_wp2_with fail
  rw [← hW0, ← hb0]
  clear hW0 hb0
  go_loopw [5, 6] (fun x i wr => ∃ (k : Nat) (vx : Value), k ≤ n ∧ i = .int .i64 k ∧ vx = x ∧ Hid (NrD W0 d ls k vx wr)) (fun _ i _ => n - (intOf i).toNat)
  case atStart => exact ⟨0, _, Nat.zero_le _, rfl, rfl, I0⟩
  case round =>
    obtain ⟨k, x, hk, rfl, rfl, hI⟩ := hrel
    have t2 : wr.cell? ⟨b0, 2, none⟩ = some (.slice av n cap) := by
      have := hI.out.below.block w.heap.size hs0
      rw [H0.out] at this
      rw [HBB.out, cell_at this]; rfl
    by_cases hkn : k < n
    · have hkl : k < ls.length := by rw [HN.out]; exact hkn
      obtain ⟨⟨a, p, b, q⟩, hq⟩ : ∃ q, ls[k]? = some q := ⟨_, List.getElem?_eq_getElem hkl⟩
      obtain ⟨G, o, rfl, hG, hcells⟩ : ∃ G o, av = some ⟨G, o, none⟩ ∧ G < w.heap.size ∧ ∀ (i : Nat) (q : LkZ), ls[i]? = some q → w.cell? ⟨G, o + i * 4, none⟩ = some (.int .i64 q.1) ∧ w.cell? ⟨G, o + i * 4 + 1, none⟩ = some (.string (tx q.2.1)) ∧ w.cell? ⟨G, o + i * 4 + 2, none⟩ = some (.int .i64 q.2.2.1) ∧ w.cell? ⟨G, o + i * 4 + 3, none⟩ = some (.string (tx q.2.2.2)) := by
        rcases HC.out with e | h
        · rw [e] at hkl; exact absurd hkl (Nat.not_lt_zero _)
        · exact h
      obtain ⟨z0, z1, z2, z3⟩ := hcells k _ hq
      have HY := hid (fun (W : World) (hb : Below W0.heap.size W0 W) => (show W.cell? ⟨G, o + k * 4, none⟩ = some (.int .i64 a) ∧ W.cell? ⟨G, o + k * 4 + 2, none⟩ = some (.int .i64 b) ∧ W.cell? ⟨b0, 2, none⟩ = some (.slice (some ⟨G, o, none⟩) n cap) from by
        have e1 : W.heap[G]? = w.heap[G]? := (hb.block G (by omega)).trans (HB0.out.block G hG)
        have e2 := hb.block w.heap.size hs0
        rw [H0.out] at e2
        exact ⟨(World.cell?_of_block (a := ⟨G, o + k * 4, none⟩) e1).trans z0, (World.cell?_of_block (a := ⟨G, o + k * 4 + 2, none⟩) e1).trans z2, by rw [HBB.out, cell_at e2]; rfl⟩))
      obtain ⟨y0, y2, -⟩ := HY.out wr hI.out.below
      have HSN := hid (nrF_snoc d hq)
      have HLN := hid (show (nrF d (ls.take k)).length ≤ 800000 from by
        have h1 := nrF_len d (ls.take k) []
        have h2 : (ls.take k).length ≤ k := by rw [List.length_take]; omega
        unfold nrF
        simp only [List.length_nil] at h1
        omega)
      have hkI : (k : Int) < (n : Int) := by omega
      have hk0 : (0 : Int) ≤ (k : Int) := by omega
      clear hcells z0 z1 z2 z3 hq hkl
      by_cases ha : a = d
      · by_cases hb : b = d
        · have HC1 := hid (HNM.out wr x (nrF d (ls.take k)) b hI.out.row hI.out.below.size (by have := HLN.out; omega))
          have HST := hid (show nrS d (nrF d (ls.take k)) (a, p, b, q) = numD a (numD b (nrF d (ls.take k))) by unfold nrS; rw [if_pos hb, if_pos ha])
          subst ha
          obtain rfl := hb
          go_wp2_with fail
          refine HC1.out.mono ?_
          rintro en w2 ⟨v2, rfl, hr2, hb2⟩
          have HR2 := hid hr2
          have HB2 := hid (Below.overN (Nat.le_refl _) hI.out.below hI.out.below.size hb2)
          clear hr2 hb2
          obtain ⟨y0, y2, t2⟩ := HY.out w2 HB2.out
          have HC2 := hid (HNM.out w2 v2 _ b HR2.out HB2.out.size (by have := numD_len b (nrF b (ls.take k)); have := HLN.out; omega))
          go_wp2_with fail
          refine HC2.out.mono ?_
          rintro en w3 ⟨v3, rfl, hr3, hb3⟩
          have HI3 := hid (show NrD W0 b ls (k + 1) v3 w3 from ⟨by rw [HSN.out, HST.out]; exact hr3, Below.overN (Nat.le_refl _) HB2.out HB2.out.size hb3⟩)
          clear hr3 hb3
          go_wp2
          go_roundw
          case rel => exact ⟨k + 1, _, by omega, by go_num, rfl, HI3⟩
          case measure => simp [intOf]; omega
        · have HC1 := hid (HNM.out wr x (nrF d (ls.take k)) b hI.out.row hI.out.below.size (by have := HLN.out; omega))
          have HST := hid (show nrS d (nrF d (ls.take k)) (a, p, b, q) = numD b (nrF d (ls.take k)) by unfold nrS; rw [if_neg hb, if_pos ha])
          subst ha
          go_wp2_with fail
          refine HC1.out.mono ?_
          rintro en w2 ⟨v2, rfl, hr2, hb2⟩
          have HI3 := hid (show NrD W0 a ls (k + 1) v2 w2 from ⟨by rw [HSN.out, HST.out]; exact hr2, Below.overN (Nat.le_refl _) hI.out.below hI.out.below.size hb2⟩)
          obtain ⟨y0, y2, t2⟩ := HY.out w2 (Below.overN (Nat.le_refl _) hI.out.below hI.out.below.size hb2)
          clear hr2 hb2
          go_wp2
          go_roundw
          case rel => exact ⟨k + 1, _, by omega, by go_num, rfl, HI3⟩
          case measure => simp [intOf]; omega
      · by_cases hb : b = d
        · have HC1 := hid (HNM.out wr x (nrF d (ls.take k)) a hI.out.row hI.out.below.size (by have := HLN.out; omega))
          have HST := hid (show nrS d (nrF d (ls.take k)) (a, p, b, q) = numD a (nrF d (ls.take k)) by unfold nrS; rw [if_pos hb, if_neg ha])
          subst hb
          go_wp2_with fail
          refine HC1.out.mono ?_
          rintro en w2 ⟨v2, rfl, hr2, hb2⟩
          have HI3 := hid (show NrD W0 b ls (k + 1) v2 w2 from ⟨by rw [HSN.out, HST.out]; exact hr2, Below.overN (Nat.le_refl _) hI.out.below hI.out.below.size hb2⟩)
          clear hr2 hb2
          go_wp2
          go_roundw
          case rel => exact ⟨k + 1, _, by omega, by go_num, rfl, HI3⟩
          case measure => simp [intOf]; omega
        · have HST := hid (show nrS d (nrF d (ls.take k)) (a, p, b, q) = nrF d (ls.take k) by unfold nrS; rw [if_neg hb, if_neg ha])
          have HI3 := hid (show NrD W0 d ls (k + 1) x wr from ⟨by rw [HSN.out, HST.out]; exact hI.out.row, hI.out.below⟩)
          go_wp2
          go_roundw
          case rel => exact ⟨k + 1, _, by omega, by go_num, rfl, HI3⟩
          case measure => simp [intOf]; omega
    · have hkn2 : k = n := by omega
      subst hkn2
      have hkI : ¬ ((k : Int) < (k : Int)) := by omega
      have HE := hid (show (∃ v', Ending.returned x = .returned v' ∧ NumsV wr v' (nearS d ls)) ∧ Below w.heap.size w wr from by
        have e : ls.take k = ls := List.take_of_length_le (by rw [HN.out]; exact Nat.le_refl _)
        have hr := hI.out.row
        rw [e, nrF_nearS] at hr
        refine ⟨⟨x, rfl, ?_⟩, ?_⟩
        · rcases (own_ints hr).2 with ⟨e1, e2⟩ | ⟨g, cp, e2, -, hat, -⟩
          · exact .inl ⟨e1, e2⟩
          · exact .inr ⟨g, cp, e2, hat⟩
        · have h1 := hI.out.below
          have h2 := HB0.out
          exact ⟨h1.os.trans h2.os, h1.tape.trans h2.tape, h1.output.trans h2.output, Nat.le_trans h2.size h1.size, fun i hi => (h1.block i (by omega)).trans (h2.block i hi)⟩)
      go_wp2
      go_ret
      exact HE.out
end Go.Proofs.YtebaopiedlioiaaGreatDoor
namespace Go.Proofs.YtebaopiedlioiaaGreatDoor
open Go.RowKit

theorem run_app_noneJ {P : Program} {w : World} (base : Nat) (t ty e : TypeId) (i : TypeInfo) (size c : Nat) (ht : P.underlying t = some (.slice e)) (hi : P.info? e = some i)
    (v : Value) (n : Nat) (xs : List Value) (hown : w.ownsRow base e size v n xs) :
    (Builtin.append_ #[t, t] ty #[v, .slice none 0 c]).run P w = .ok v w := by
  rcases hown.2 with ⟨rfl, rfl⟩ | ⟨g, cap, cur, rfl, _, _, hnc, _⟩
  · simp [Builtin.append_, run_underlying ht, sizeOf, typeInfo, hi, Builtin.lenOf, Builtin.firstCells]
  · simp [Builtin.append_, run_underlying ht, sizeOf, typeInfo, hi, Builtin.lenOf, Builtin.firstCells, hnc, storeCells]
theorem step_append_srcJ {P : Program} (w : World) {ops : Array Oper} {o : Oper} {a : Act} {K : Act → World → Prop} {Q : Exit → Act → World → Prop} {E : Prop} (hgd : o.guard = none) (s x : Operand) (t : TypeId)
    (ho : o.op = .call { callee := .builtin .append, args := #[s, x], argTypes := #[t, t] })
    (base : Nat) (e : TypeId) (i : TypeInfo) (z : Value) (size bytes : Nat) (ht : P.underlying t = some (.slice e)) (hi : P.info? e = some i) (hz : i.zero = some z)
    (hsize : i.size = size) (hby : i.bytes = bytes) (hzs : z.cells.size = size) (hsz : 0 < size)
    (v : Value) (n : Nat) (xs : List Value) (hs : a.eval s = v) (hown : w.ownsRow base e size v n xs)
    (vx : Value) (m : Nat) (news : List Value) (hx : a.eval x = vx) (hsrc : (∃ c, vx = .slice none 0 c ∧ m = 0 ∧ news = []) ∨ ∃ ad c, vx = .slice (some ad) m c ∧ news.length = m * size ∧ ∀ j u, news[j]? = some u → w.cell? (ad.add j) = some u) (h1 : ∀ u ∈ news, u.oneCell' = true)
    (h63 : n + m ≤ maxLen) (hbytes : (n + m) * bytes ≤ 140737488355328) (hbase : base ≤ w.heap.size)
    (h : ∀ v' w', w'.ownsRow base e size v' (n + m) (xs ++ news) → w.grownBy w' v.ownBlock → K (a.put o.dst v') w') :
    if Region.wanted o (yielded ops a.tmps) = true then Oper.wp P o a w K Q else E := by
  have hw : Region.wanted o (yielded ops a.tmps) = true := by simp [Region.wanted, hgd]
  rw [if_pos hw]
  rcases hsrc with ⟨c, rfl, rfl, rfl⟩ | ⟨ad, cap, rfl, hl, hc⟩
  · have hrun := run_app_noneJ (P := P) (w := w) base t o.type e i size c ht hi v n xs hown
    unfold Oper.wp
    simp [execOp, ho, resolve, invoke, builtin, hs, hx, hrun, Result.andThen]
    exact h v w (by simpa using hown) ⟨rfl, rfl, rfl, Nat.le_refl _, fun _ _ _ => rfl⟩
  · obtain ⟨v', w', hrun, h2, h3, _, _⟩ := run_append_own_at (P := P) w base t o.type e i z size bytes ht hi hz hsize hby hzs hsz v n xs hown ad m cap news hl hc h1 h63 hbytes hbase
    unfold Oper.wp
    simp [execOp, ho, resolve, invoke, builtin, hs, hx, hrun, Result.andThen]
    exact h v' w' h2 h3
/-- What the document's Who tells, so far as the law looks. -/
def RWhoQ (w : World) (d : Int) (ds : List (To.Dv × Value × Value)) (en : Ending) (w' : World) : Prop :=
  Below w.heap.size w w' ∧ ((d < 0 ∨ (ds.length : Int) ≤ d) ∧ en = .returned (.tuple #[.agg #[.string (tx []), .slice none 0 0], .bool false]) ∨ ∃ (k : Nat) (q : To.Dv × Value × Value) (ao : Option Addr) (cp : Nat), d = k ∧ ds[k]? = some q ∧ en = .returned (.tuple #[.agg #[.string (tx q.1.name), .slice ao q.1.cls.length cp], .bool true]))

set_option maxRecDepth 20000 in
set_option maxHeartbeats 2000000 in
theorem RWho_any {w : World} {wd : Value} {dv : Option Addr} {N dc : Nat} {vl : Value} {ds : List (To.Dv × Value × Value)} (hD : DvL w (.slice dv N dc) ds) (d : Int) (hn : ds.length ≤ maxLen) (hs : ∀ q ∈ ds, q.1.cls.length * 16 ≤ 140737488355328) (hl : ∃ a m c, vl = .slice a m c) (hw : ∃ i : Int, wd = .int .i64 i) :
    Calls Tryz.prog 24 #[.agg #[wd, .slice dv N dc, vl], .int .i64 d] w fun en w' => RWhoQ w d ds en w' := by
  obtain ⟨la, lm, lc, rfl⟩ := hl
  obtain ⟨wi, rfl⟩ := hw
  obtain ⟨av, cap, e, hr⟩ := hD.form
  injection e with e1 e2 e3
  subst e1; subst e2; subst e3
  obtain ⟨i0, hi, hz0, hz1, hz2⟩ := info_parts Tryz.infoStrP
  have HI := hid hi
  have HZ0 := hid hz0
  have HZ1 := hid hz1
  have HZ2 := hid hz2
  clear hi hz0 hz1 hz2
  obtain ⟨n, hnn⟩ : ∃ n, n = ds.length := ⟨_, rfl⟩
  have HN := hid hnn
  have hn1 : n ≤ maxLen := by rw [hnn]; exact hn
  unfold maxLen at hn1
  have HZB := hid (fun (x y : Obj) => (show Below w.heap.size w ((w.alloc x).alloc y) from ((Below.refl _ _).alloc (Nat.le_refl _) _).alloc (by simp) _))
  by_cases h0 : d < 0
  · have HQ := hid (fun (W : World) (hb : Below w.heap.size w W) => (show RWhoQ w d ds (.returned (.tuple #[.agg #[.string (tx []), .slice none 0 0], .bool false])) W from ⟨hb, .inl ⟨.inl h0, rfl⟩⟩))
    have HZS := hid (fun (x y : Obj) (u v : Value) => (show Below w.heap.size w ((((w.alloc x).alloc y).setCell ⟨w.heap.size + 1, 0, none⟩ u).setCell ⟨w.heap.size + 1, 1, none⟩ v) from ((HZB.out x y).setCell (by simp) _).setCell (by simp) _))
    clear hr hD hs hnn hn
    go_enter Tryz.func24, Tryz.ntmps24
    go_wp2
    refine bodyPost_ret (v := .tuple #[.agg #[.string (tx []), .slice none 0 0], .bool false]) (by simp [results, Tryz.results24, go_sem]) rfl ?_
    first | exact HQ.out _ (HZB.out _ _) | exact HQ.out _ (HZS.out _ _ _ _)
  · obtain ⟨k, rfl⟩ : ∃ k : Nat, d = k := ⟨d.toNat, by omega⟩
    by_cases h1 : k < n
    · obtain ⟨q, hq⟩ : ∃ q, ds[k]? = some q := ⟨_, List.getElem?_eq_getElem (by omega)⟩
      obtain ⟨G, o, rfl, hG, hc⟩ := hr.resolve_left (fun e => by rw [e] at hq; simp at hq)
      obtain ⟨a0, a1, a2⟩ := hc k q hq
      have hs2 := hs q (List.mem_of_getElem? hq)
      obtain ⟨ht, hl⟩ := hD.cls q (List.mem_of_getElem? hq)
      obtain ⟨ca, cc, hvc, hT⟩ := id ht
      rw [hvc] at a1
      obtain ⟨nm, hnm⟩ : ∃ nm, nm = q.1.name := ⟨_, rfl⟩
      obtain ⟨zs, hzs⟩ : ∃ zs, zs = q.1.cls := ⟨_, rfl⟩
      obtain ⟨cn, hcn⟩ : ∃ cn, cn = zs.length := ⟨_, rfl⟩
      rw [← hzs] at hT a1 hs2
      rw [← hnm] at a0
      rw [← hcn] at a1 hs2
      have HNM := hid hnm
      have HCN := hid (show cn = q.1.cls.length by rw [hcn, hzs])
      have HQ := hid hq
      have kI : (k : Int) < (n : Int) := by omega
      have k0 : ¬ (k : Int) < 0 := by omega
      have k1 : ¬ (n : Int) ≤ (k : Int) := by omega
      have k2 : (0 : Int) ≤ (k : Int) := by omega
      rw [← hnn]
      obtain ⟨b0, hb0⟩ : ∃ b0, b0 = w.heap.size := ⟨_, rfl⟩
      obtain ⟨R, hR⟩ : ∃ R, R = w.heap.size + 1 := ⟨_, rfl⟩
      obtain ⟨W1, hW1⟩ : ∃ W1, W1 = (w.alloc (.cells #[.int .i64 wi, .slice (some ⟨G, o, none⟩) n dc, .slice la lm lc] 25)).alloc (.cells #[.string ⟨#[]⟩, .slice none 0 0] 49) := ⟨_, rfl⟩
      have HBW := hid (show Below w.heap.size w W1 from by rw [hW1]; exact ((Below.refl _ _).alloc (Nat.le_refl _) _).alloc (by simp) _)
      have h0b : W1.heap[b0]? = some (.cells #[.int .i64 wi, .slice (some ⟨G, o, none⟩) n dc, .slice la lm lc] 25 (0, 0)) := by
        rw [hW1, hb0, heap_old _ _ (by simp)]
        exact new_0 _ _
      have hRb : W1.heap[R]? = some (.cells #[.string ⟨#[]⟩, .slice none 0 0] 49 (0, 0)) := by
        rw [hW1, hR]
        exact new_1 _ _ _
      obtain ⟨X, hX⟩ : ∃ X, X = W1.heap.size := ⟨_, rfl⟩
      have HX := hid hX
      have hGX : G < W1.heap.size := by have := HBW.out.size; omega
      have HK := hid (fun (W : World) (hb : Below X W1 W) => (by
        have x1 := (hb.block b0 (by rw [hX]; exact lt_of_block h0b)).trans h0b
        have x2 := (hb.block R (by rw [hX]; exact lt_of_block hRb)).trans hRb
        have x3 : W.heap[G]? = w.heap[G]? := (hb.block G (by omega)).trans (HBW.out.block G hG)
        exact ⟨⟨by rw [cell_at x1]; rfl, (World.cell?_of_block (a := ⟨G, o + k * 3, none⟩) x3).trans a0, (World.cell?_of_block (a := ⟨G, o + k * 3 + 1, none⟩) x3).trans a1⟩, by rw [cell_at x2]; rfl, by rw [cell_at x2]; rfl, free_of x2, free_of x2⟩ : (W.cell? ⟨b0, 1, none⟩ = some (.slice (some ⟨G, o, none⟩) n dc) ∧ W.cell? ⟨G, o + k * 3, none⟩ = some (.string (tx nm)) ∧ W.cell? ⟨G, o + k * 3 + 1, none⟩ = some (.slice ca cn cc)) ∧ W.cell? ⟨R, 0, none⟩ = some (.string ⟨#[]⟩) ∧ W.cell? ⟨R, 1, none⟩ = some (.slice none 0 0) ∧ W.frozen? ⟨R, 0, none⟩ = false ∧ W.frozen? ⟨R, 1, none⟩ = false))
      have HRB := hid (fun (W : World) (hb : Below X W1 W) => (hb.block R (by rw [hX]; exact lt_of_block hRb)).trans hRb)
      have HSRC := hid (fun (W : World) (hb : Below X W1 W) => (by
        rcases hT with e | ⟨g, o2, e, hg, hcell⟩
        · have hz : cn = 0 := by rw [hcn, e]; rfl
          rcases ca with _ | ad
          · exact .inl ⟨cc, by rw [hz], hz, by rw [e]; rfl⟩
          · exact .inr ⟨ad, cc, rfl, by rw [e, hz]; rfl, fun j u hu => absurd hu (by rw [e]; simp [svs])⟩
        · refine .inr ⟨⟨g, o2, none⟩, cc, by rw [e], by unfold svs; rw [List.length_map, hcn]; omega, fun j u hu => ?_⟩
          unfold svs at hu
          rw [List.getElem?_map, Option.map_eq_some_iff] at hu
          obtain ⟨x, hx, rfl⟩ := hu
          have hj := (List.getElem?_eq_some_iff.1 hx).1
          have := hcell j hj
          rw [List.getD_eq_getElem?_getD, hx, Option.getD_some] at this
          have e3 : W.heap[g]? = w.heap[g]? := (hb.block g (by have := HBW.out.size; omega)).trans (HBW.out.block g hg)
          rw [show (⟨g, o2, none⟩ : Addr).add j = ⟨g, o2 + j, none⟩ by unfold Addr.add; split <;> simp_all]
          exact (World.cell?_of_block (a := ⟨g, o2 + j, none⟩) e3).trans this : (∃ c, Value.slice ca cn cc = .slice none 0 c ∧ cn = 0 ∧ svs zs = []) ∨ ∃ ad c, Value.slice ca cn cc = .slice (some ad) cn c ∧ (svs zs).length = cn * 1 ∧ ∀ j u, (svs zs)[j]? = some u → W.cell? (ad.add j) = some u))
      have HAL := hid (fun (W : World) (hb : Below X W1 W) (ob : Obj) => (show Below X W1 (W.alloc ob) from hb.alloc (by have := hb.size; omega) _))
      have HMD := hid (fun (W : World) (hW : W.heap.size = X) => (show (W.alloc (.cells #[] 9)).ownsRow X 9 1 (.slice (some ⟨X, 0, none⟩) 0 0) 0 [] from by rw [← hW]; exact own_madeP W))
      have hML : 0 + cn ≤ maxLen := by unfold maxLen; omega
      have hMB : (0 + cn) * 16 ≤ 140737488355328 := by omega
      have HSK := hid (fun (W : World) (u v : Value) (h : W.cell? ⟨b0, 1, none⟩ = some (.slice (some ⟨G, o, none⟩) n dc) ∧ W.cell? ⟨G, o + k * 3, none⟩ = some (.string (tx nm)) ∧ W.cell? ⟨G, o + k * 3 + 1, none⟩ = some (.slice ca cn cc)) => (by
        have e : ∀ i, i ≠ R → ((W.setCell ⟨R, 0, none⟩ u).setCell ⟨R, 1, none⟩ v).heap[i]? = W.heap[i]? := fun i hi => by rw [Below.heap_setCell _ _ _ _ hi, Below.heap_setCell _ _ _ _ hi]
        exact ⟨(World.cell?_of_block (a := ⟨b0, 1, none⟩) (e b0 (by omega))).trans h.1, (World.cell?_of_block (a := ⟨G, o + k * 3, none⟩) (e G (by omega))).trans h.2.1, (World.cell?_of_block (a := ⟨G, o + k * 3 + 1, none⟩) (e G (by omega))).trans h.2.2⟩ : ((W.setCell ⟨R, 0, none⟩ u).setCell ⟨R, 1, none⟩ v).cell? ⟨b0, 1, none⟩ = some (.slice (some ⟨G, o, none⟩) n dc) ∧ ((W.setCell ⟨R, 0, none⟩ u).setCell ⟨R, 1, none⟩ v).cell? ⟨G, o + k * 3, none⟩ = some (.string (tx nm)) ∧ ((W.setCell ⟨R, 0, none⟩ u).setCell ⟨R, 1, none⟩ v).cell? ⟨G, o + k * 3 + 1, none⟩ = some (.slice ca cn cc)))
      have hRX : R < X := by rw [hX]; exact lt_of_block hRb
      have hwR : w.heap.size ≤ R := by omega
      clear h0b hRb hGX
      clear hr hD hs hq hc ht hvc hnm hcn hs2 hl h0 h1 hnn hn hzs hT a0 a1 a2 hG
      go_enter Tryz.func24, Tryz.ntmps24
      go_upto_region 3 with fail
      rw [← hW1, ← hR, ← hb0]
      clear hW1 hb0 hR hX
      have K0 := (HK.out _ (Below.refl X W1).drew).1
      have KA := fun ob => (HK.out _ (HAL.out _ (Below.refl X W1).drew ob)).1
      have hXW : X ≤ W1.heap.size := Nat.le_of_eq HX.out
      go_region_held3 (fun W => W.cell? ⟨b0, 1, none⟩ = some (.slice (some ⟨G, o, none⟩) n dc) ∧ W.cell? ⟨G, o + k * 3, none⟩ = some (.string (tx nm)) ∧ W.cell? ⟨G, o + k * 3 + 1, none⟩ = some (.slice ca cn cc)) (first | exact K6 | exact K0 | exact KA _ | exact HSK.out _ _ _ K6) (first | (refine step_append_srcJ _ (by rfl) (.tmp 22) (.tmp 28) 47 (by rfl) X 9 i0 (.string (tx [])) 1 16 Tryz.underlying47 HI.out HZ0.out HZ1.out HZ2.out rfl (by decide) (.slice (some ⟨X, 0, none⟩) 0 0) 0 [] (by rw [HX.out]; rfl) (by exact HMD.out _ HX.out.symm) (.slice ca cn cc) cn (svs zs) (by rfl) (by exact HSRC.out _ (HAL.out _ (Below.refl X W1).drew _)) (svs_oneP _) hML hMB (by rw [HX.out]; exact Nat.le_of_lt (by simp)) ?_; intro v6 w6 hown6 hg6; have HB6 := hid (grew_belowP hXW (HAL.out _ (Below.refl X W1).drew _) (HMD.out _ HX.out.symm) hg6); (rw [Nat.zero_add] at hown6); obtain ⟨ao, cp, rfl⟩ := own_formJ hown6; clear hown6 hg6; obtain ⟨K6, r0, r1, rf0, rf1⟩ := HK.out w6 HB6.out))
      have HFN := hid (show RWhoQ w k ds (.returned (.tuple #[.agg #[.string (tx nm), .slice ao cn cp], .bool true])) ((w6.setCell ⟨R, 0, none⟩ (.string (tx nm))).setCell ⟨R, 1, none⟩ (.slice ao cn cp)) from by
        have h1 := HB6.out
        have h2 := HBW.out
        have h3 : Below w.heap.size w w6 := ⟨h1.os.trans h2.os, h1.tape.trans h2.tape, h1.output.trans h2.output, Nat.le_trans h2.size h1.size, fun i hi => (h1.block i (by rw [HX.out]; have := h2.size; omega)).trans (h2.block i hi)⟩
        exact ⟨(h3.setCell (by exact hwR) _).setCell (by exact hwR) _, .inr ⟨k, q, ao, cp, rfl, HQ.out, by rw [HNM.out, HCN.out]⟩⟩)
      obtain ⟨V, hV⟩ : ∃ V, V = (w6.setCell ⟨R, 0, none⟩ (.string (tx nm))).setCell ⟨R, 1, none⟩ (.slice ao cn cp) := ⟨_, rfl⟩
      have hvb : ∃ c0 c1, w6.heap[R]? = some (.cells #[c0, c1] 49 (0, 0)) := ⟨_, _, HRB.out w6 HB6.out⟩
      obtain ⟨c0, c1, hvb⟩ := hvb
      have hvv : V.heap[R]? = some (.cells #[.string (tx nm), .slice ao cn cp] 49 (0, 0)) := by rw [hV, block_set (o := 1) _ (block_set (o := 0) _ hvb)]; rfl
      have v0 : V.cell? ⟨R, 0, none⟩ = some (.string (tx nm)) := by rw [cell_at hvv]; rfl
      have v1 : V.cell? ⟨R, 1, none⟩ = some (.slice ao cn cp) := by rw [cell_at hvv]; rfl
      rw [hV] at v0 v1
      clear hvv hvb hV r0 r1 rf0 rf1
      go_wp2
      refine bodyPost_ret (v := .tuple #[.agg #[.string (tx nm), .slice ao cn cp], .bool true]) (by simp [results, Tryz.results24, go_sem, v0, v1]) rfl ?_
      exact HFN.out
    · have HQ := hid (fun (W : World) (hb : Below w.heap.size w W) => (show RWhoQ w k ds (.returned (.tuple #[.agg #[.string (tx []), .slice none 0 0], .bool false])) W from ⟨hb, .inl ⟨.inr (by omega), rfl⟩⟩))
      have HZS := hid (fun (x y : Obj) (u v : Value) => (show Below w.heap.size w ((((w.alloc x).alloc y).setCell ⟨w.heap.size + 1, 0, none⟩ u).setCell ⟨w.heap.size + 1, 1, none⟩ v) from ((HZB.out x y).setCell (by simp) _).setCell (by simp) _))
      have k1 : (n : Int) ≤ (k : Int) := by omega
      have k2 : ¬ (k : Int) < 0 := by omega
      have k3 : n ≤ k := by omega
      rw [← hnn]
      clear hr hD hs hnn h0 h1 hn
      go_enter Tryz.func24, Tryz.ntmps24
      go_wp2
      refine bodyPost_ret (v := .tuple #[.agg #[.string (tx []), .slice none 0 0], .bool false]) (by simp [results, Tryz.results24, go_sem]) rfl ?_
      first | exact HQ.out _ (HZB.out _ _) | exact HQ.out _ (HZS.out _ _ _ _)
end Go.Proofs.YtebaopiedlioiaaGreatDoor
namespace Go.Proofs.YtebaopiedlioiaaGreatDoor
open Go.RowKit

set_option maxRecDepth 20000 in
set_option maxHeartbeats 2000000 in
theorem RTexts_exact {w : World} {v1 v2 : Value} {xs ys : List (List UInt8)} (h1 : Txs w v1 xs) (h2 : Txs w v2 ys) (hn : xs.length ≤ maxLen) (hm : ys.length ≤ maxLen) :
    Calls Tryz.prog 36 #[v1, v2] w fun e w' => e = .returned (.bool (decide (xs = ys))) ∧ ∃ n, w' = w.drewN n := by
  obtain ⟨a1, c1, rfl, r1⟩ := h1
  obtain ⟨a2, c2, rfl, r2⟩ := h2
  have HR1 := hid r1
  have HR2 := hid r2
  obtain ⟨n, hnn⟩ : ∃ n, n = xs.length := ⟨_, rfl⟩
  obtain ⟨m, hmm⟩ : ∃ m, m = ys.length := ⟨_, rfl⟩
  have HN := hid hnn
  have HM := hid hmm
  rw [← hnn] at hn ⊢
  rw [← hmm] at hm ⊢
  unfold maxLen at hn hm
  clear r1 r2 hnn hmm
  by_cases hq : n = m
  · subst hq
    have hne : ((n : Int) != (n : Int)) = false := by simp
    go_enter Tryz.func36, Tryz.ntmps36
    go_wp2_with fail
    go_loopw [5] (fun i wr => ∃ k : Nat, k ≤ n ∧ i = .int .i64 k ∧ Hid (∀ i, i < k → xs[i]? = ys[i]?) ∧ Hid (∃ m, wr = w.drewN m)) (fun i _ => n - (intOf i).toNat)
    case atStart => exact ⟨0, Nat.zero_le _, rfl, hid fun i h => absurd h (Nat.not_lt_zero _), hid ⟨0, rfl⟩⟩
    case round =>
      obtain ⟨k, hk, rfl, hA, hB⟩ := hrel
      by_cases hlt : k < n
      · obtain ⟨x, hx⟩ : ∃ x, xs[k]? = some x := ⟨_, List.getElem?_eq_getElem (by have := HN.out; omega)⟩
        obtain ⟨y, hy⟩ : ∃ y, ys[k]? = some y := ⟨_, List.getElem?_eq_getElem (by have := HM.out; omega)⟩
        obtain ⟨g, o, rfl, hg, hc⟩ := HR1.out.resolve_left (fun e => by rw [e] at hx; simp at hx)
        obtain ⟨g', o', rfl, hg', hc'⟩ := HR2.out.resolve_left (fun e => by rw [e] at hy; simp at hy)
        have e0 : wr.heap = w.heap := by obtain ⟨m, hm⟩ := hB.out; rw [hm]; rfl
        have d1 := hc k (by have := HN.out; omega)
        have d2 := hc' k (by have := HM.out; omega)
        rw [List.getD_eq_getElem?_getD, hx] at d1
        rw [List.getD_eq_getElem?_getD, hy] at d2
        have y1 := (World.cell?_of_block (w' := wr) (a := ⟨g, o + k, none⟩) (by rw [e0])).trans d1
        have y2 := (World.cell?_of_block (w' := wr) (a := ⟨g', o' + k, none⟩) (by rw [e0])).trans d2
        simp only [Option.getD_some] at y1 y2
        have kI : (k : Int) < (n : Int) := by omega
        have k0 : (0 : Int) ≤ (k : Int) := by omega
        have HX := hid hx
        have HY := hid hy
        clear hx hy hc hc' e0 d1 d2
        by_cases e : x = y
        · have HA2 := hid (show ∀ i, i < k + 1 → xs[i]? = ys[i]? from fun i hi => by
            by_cases q : i = k
            · rw [q, HX.out, HY.out, e]
            · exact hA.out i (by omega))
          subst e
          have hne2 : (x != x) = false := by simp
          go_wp2_with fail
          go_quiet (fail)
          go_wp2
          go_roundw
          case rel => exact ⟨k + 1, by omega, by go_num, HA2, hid (drew_more hB.out)⟩
          case measure => simp [intOf]; omega
        · have e1 : (x != y) = true := by rw [bne_iff_ne]; exact e
          have e2 : (x == y) = false := by rw [beq_eq_false_iff_ne]; exact e
          have HE := hid (show decide (xs = ys) = false from decide_eq_false (fun q => e (by
            have h1 := HX.out
            rw [q, HY.out] at h1
            injection h1 with h1
            exact h1.symm)))
          clear e
          go_wp2_with fail
          go_quiet (fail)
          go_wp2
          go_ret
          exact ⟨by rw [HE.out]; rfl, drew_more hB.out⟩
      · have hkn : k = n := by omega
        have HE := hid (show decide (xs = ys) = true from decide_eq_true (by
          apply List.ext_getElem?
          intro i
          by_cases q : i < n
          · exact hA.out i (by omega)
          · rw [List.getElem?_eq_none (by have := HN.out; omega), List.getElem?_eq_none (by have := HM.out; omega)]))
        go_wp2
        go_ret
        exact ⟨by rw [HE.out]; rfl, hB.out⟩
  · have HE := hid (show decide (xs = ys) = false from decide_eq_false (fun q => hq (by rw [HN.out, HM.out, q])))
    have hne : ((n : Int) != (m : Int)) = true := by rw [bne_iff_ne]; omega
    have hne2 : (n != m) = true := by rw [bne_iff_ne]; exact hq
    go_enter Tryz.func36, Tryz.ntmps36
    go_wp2
    go_ret
    exact ⟨by rw [HE.out]; rfl, 0, rfl⟩

theorem lkNeJ (d d' a a' : Int) (m m' p p' : List UInt8) (w : World) : (binOp .neq 83 (.agg #[.int .i64 d, .string (tx m), .int .i64 a, .string (tx p)]) (.agg #[.int .i64 d', .string (tx m'), .int .i64 a', .string (tx p')])).run Tryz.prog w = .ok (.bool (!decide (d = d' ∧ m = m' ∧ a = a' ∧ p = p'))) w := by
  have u0 := Tryz.underlying83
  have st : Tryz.prog.stoodInHeld 83 = false := by kernel_rfl
  have a0 := fun w => part_intJ w #[.int .i64 d, .string (tx m), .int .i64 a, .string (tx p)] 0 _ rfl
  have a1 := fun w => part_strJ w #[.int .i64 d, .string (tx m), .int .i64 a, .string (tx p)] 1 _ rfl
  have a2 := fun w => part_intJ w #[.int .i64 d, .string (tx m), .int .i64 a, .string (tx p)] 2 _ rfl
  have a3 := fun w => part_strJ w #[.int .i64 d, .string (tx m), .int .i64 a, .string (tx p)] 3 _ rfl
  have b0 := fun w => part_intJ w #[.int .i64 d', .string (tx m'), .int .i64 a', .string (tx p')] 0 _ rfl
  have b1 := fun w => part_strJ w #[.int .i64 d', .string (tx m'), .int .i64 a', .string (tx p')] 1 _ rfl
  have b2 := fun w => part_intJ w #[.int .i64 d', .string (tx m'), .int .i64 a', .string (tx p')] 2 _ rfl
  have b3 := fun w => part_strJ w #[.int .i64 d', .string (tx m'), .int .i64 a', .string (tx p')] 3 _ rfl
  unfold binOp
  simp only
  unfold Op.equal Op.maxDepth
  rw [Op.equalIn]
  by_cases h1 : d = d'
  · have e1 : (d == d') = true := by rw [h1]; simp
    by_cases h2 : m = m'
    · have e2 : (m == m') = true := by rw [h2]; simp
      by_cases h3 : a = a'
      · have e3 : (a == a') = true := by rw [h3]; simp
        by_cases h4 : p = p'
        · have e4 : (p == p') = true := by rw [h4]; simp
          rw [decide_eq_true ⟨h1, h2, h3, h4⟩]
          clear h1 h2 h3 h4
          simp [run_underlying u0, st, a0, a1, a2, a3, b0, b1, b2, b3, eq_intJ, eq_strJ, e1, e2, e3, e4, Result.andThen]
        · have e4 : (p == p') = false := beq_eq_false_iff_ne.2 h4
          rw [decide_eq_false (fun q => h4 q.2.2.2)]
          clear h1 h2 h3 h4
          simp [run_underlying u0, st, a0, a1, a2, a3, b0, b1, b2, b3, eq_intJ, eq_strJ, e1, e2, e3, e4, Result.andThen]
      · have e3 : (a == a') = false := beq_eq_false_iff_ne.2 h3
        rw [decide_eq_false (fun q => h3 q.2.2.1)]
        clear h1 h2 h3
        simp [run_underlying u0, st, a0, a1, a2, b0, b1, b2, eq_intJ, eq_strJ, e1, e2, e3, Result.andThen]
    · have e2 : (m == m') = false := beq_eq_false_iff_ne.2 h2
      rw [decide_eq_false (fun q => h2 q.2.1)]
      clear h1 h2
      simp [run_underlying u0, st, a0, a1, b0, b1, eq_intJ, eq_strJ, e1, e2, Result.andThen]
  · have e1 : (d == d') = false := beq_eq_false_iff_ne.2 h1
    rw [decide_eq_false (fun q => h1 q.1)]
    clear h1
    simp [run_underlying u0, st, a0, b0, eq_intJ, e1, Result.andThen]

/-- Two devices alike. -/
def dvE (x y : To.Dv) : Bool := (decide (x.name = y.name) && decide (x.cls = y.cls)) && decide (x.prt = y.prt)
def lkE (x y : LkZ) : Bool := decide (x.1 = y.1 ∧ x.2.1 = y.2.1 ∧ x.2.2.1 = y.2.2.1 ∧ x.2.2.2 = y.2.2.2)
def sameT (wd : Int) (ds : List To.Dv) (ls : List LkZ) (wd' : Int) (ds' : List To.Dv) (ls' : List LkZ) : Bool := (decide (wd = wd') && (decide (ds.length = ds'.length) && decide (ls.length = ls'.length))) && (allN ds.length (fun i => dvE (ds.getD i dv0) (ds'.getD i dv0)) && allN ls.length (fun i => lkE (ls.getD i lk0) (ls'.getD i lk0)))
end Go.Proofs.YtebaopiedlioiaaGreatDoor
namespace Go.Proofs.YtebaopiedlioiaaGreatDoor
open Go.RowKit

/-- What stands still while two topologies are held against each other. -/
structure TwI (w : World) (a b : Obj) (wr : World) : Prop where
  one : wr.heap[w.heap.size]? = some a
  two : wr.heap[w.heap.size + 1]? = some b
  below : Below w.heap.size w wr
theorem TwI.on {w : World} {a b : Obj} {wr w' : World} (h : TwI w a b wr) (hb : Below wr.heap.size wr w') : TwI w a b w' :=
  ⟨(hb.block _ (lt_of_block h.one)).trans h.one, (hb.block _ (lt_of_block h.two)).trans h.two, ⟨hb.os.trans h.below.os, hb.tape.trans h.below.tape, hb.output.trans h.below.output, Nat.le_trans h.below.size hb.size, fun i hi => (hb.block i (Nat.lt_of_lt_of_le hi h.below.size)).trans (h.below.block i hi)⟩⟩
theorem two_boxes (w : World) (a b : Obj) : ((w.alloc a).alloc b).drew.heap[w.heap.size]? = some a ∧ ((w.alloc a).alloc b).drew.heap[w.heap.size + 1]? = some b ∧ Below w.heap.size w ((w.alloc a).alloc b).drew :=
  ⟨new_old _ _ (new_0 _ _), new_1 _ _ _, (((Below.refl _ _).alloc (Nat.le_refl _) _).alloc (by simp) _).drew⟩

set_option maxRecDepth 20000 in
set_option maxHeartbeats 2000000 in
theorem RSameT_any {w : World} {wd wd' : Int} {vd vl vd' vl' : Value} {ds ds' : List (To.Dv × Value × Value)} {ls ls' : List LkZ} (hD : DvL w vd ds) (hL : LkV w vl ls) (hD' : DvL w vd' ds') (hL' : LkV w vl' ls') (hdn : ds.length ≤ maxLen) (hln : ls.length ≤ maxLen) :
    Calls Tryz.prog 11 #[.agg #[.int .i64 wd, vd, vl], .agg #[.int .i64 wd', vd', vl']] w fun e w' => e = .returned (.bool (sameT wd (ds.map (·.1)) ls wd' (ds'.map (·.1)) ls')) ∧ Below w.heap.size w w' := by
  have HD := hid hD
  have HD' := hid hD'
  obtain ⟨dv, dc, hvd, hdv⟩ := hD.form
  obtain ⟨lv, lc, hvl, hlv⟩ := hL.form
  obtain ⟨dv', dc', hvd', hdv'⟩ := hD'.form
  obtain ⟨lv', lc', hvl', hlv'⟩ := hL'.form
  obtain ⟨N, hN⟩ : ∃ N, N = ds.length := ⟨_, rfl⟩
  obtain ⟨M, hM⟩ : ∃ M, M = ls.length := ⟨_, rfl⟩
  obtain ⟨N', hN'⟩ : ∃ N, N = ds'.length := ⟨_, rfl⟩
  obtain ⟨M', hM'⟩ : ∃ M, M = ls'.length := ⟨_, rfl⟩
  have HDV := hid hdv
  have HLV := hid hlv
  have HDV' := hid hdv'
  have HLV' := hid hlv'
  rw [← hN] at hvd hdn
  rw [← hM] at hvl hln
  rw [← hN'] at hvd'
  rw [← hM'] at hvl'
  unfold maxLen at hdn hln
  subst hvd; subst hvl; subst hvd'; subst hvl'
  have HS := hid (show sameT wd (ds.map (·.1)) ls wd' (ds'.map (·.1)) ls' = ((decide (wd = wd') && (decide (N = N') && decide (M = M'))) && (allN N (fun i => dvE ((ds.map (·.1)).getD i dv0) ((ds'.map (·.1)).getD i dv0)) && allN M (fun i => lkE (ls.getD i lk0) (ls'.getD i lk0)))) by
    unfold sameT; rw [List.length_map, List.length_map, ← hN, ← hM, ← hN', ← hM'])
  have HN := hid hN
  have HM := hid hM
  have HN' := hid hN'
  have HM' := hid hM'
  have HB := hid (fun (a b : Obj) => (show Below w.heap.size w ((w.alloc a).alloc b) from ((Below.refl _ _).alloc (Nat.le_refl _) _).alloc (by simp) _))
  clear hD hL hD' hL' hdv hlv hdv' hlv' hN hM hN' hM'
  by_cases q1 : wd = wd'
  case neg =>
    have e1 : (wd != wd') = true := by rw [bne_iff_ne]; exact q1
    have e2 : (wd == wd') = false := by rw [beq_eq_false_iff_ne]; exact q1
    have HE := hid (show sameT wd (ds.map (·.1)) ls wd' (ds'.map (·.1)) ls' = false by rw [HS.out, decide_eq_false q1]; rfl)
    clear q1
    go_enter Tryz.func11, Tryz.ntmps11
    go_wp2
    go_ret
    exact ⟨by rw [HE.out]; rfl, HB.out _ _⟩
  case pos =>
    subst q1
    have HT := hid (show decide (wd = wd) = true from decide_eq_true rfl)
    by_cases q2 : N = N'
    case neg =>
      have e1 : (N != N') = true := by rw [bne_iff_ne]; exact q2
      have e2 : (N == N') = false := by rw [beq_eq_false_iff_ne]; exact q2
      have e3 : ((N : Int) != (N' : Int)) = true := by rw [bne_iff_ne]; omega
      have HE := hid (show sameT wd (ds.map (·.1)) ls wd (ds'.map (·.1)) ls' = false by rw [HS.out, HT.out, decide_eq_false q2]; rfl)
      clear q2
      go_enter Tryz.func11, Tryz.ntmps11
      go_wp2
      go_ret
      exact ⟨by rw [HE.out]; rfl, HB.out _ _⟩
    case pos =>
      subst q2
      have HT2 := hid (show decide (N = N) = true from decide_eq_true rfl)
      by_cases q3 : M = M'
      case neg =>
        have e1 : (M != M') = true := by rw [bne_iff_ne]; exact q3
        have e2 : (M == M') = false := by rw [beq_eq_false_iff_ne]; exact q3
        have e3 : ((M : Int) != (M' : Int)) = true := by rw [bne_iff_ne]; omega
        have HE := hid (show sameT wd (ds.map (·.1)) ls wd (ds'.map (·.1)) ls' = false by rw [HS.out, HT.out, HT2.out, decide_eq_false q3]; rfl)
        clear q3
        go_enter Tryz.func11, Tryz.ntmps11
        go_wp2
        go_ret
        exact ⟨by rw [HE.out]; rfl, HB.out _ _⟩
      case pos =>
        subst q3
        have HSS := hid (show sameT wd (ds.map (·.1)) ls wd (ds'.map (·.1)) ls' = (allN N (fun i => dvE ((ds.map (·.1)).getD i dv0) ((ds'.map (·.1)).getD i dv0)) && allN M (fun i => lkE (ls.getD i lk0) (ls'.getD i lk0))) by
          rw [HS.out, HT.out, HT2.out, decide_eq_true (rfl : M = M)]; rfl)
        clear HS HT HT2
        have I0 := hid (show TwI w (topJ (.int .i64 wd) (.slice dv N dc) (.slice lv M lc)) (topJ (.int .i64 wd) (.slice dv' N dc') (.slice lv' M lc')) ((w.alloc (topJ (.int .i64 wd) (.slice dv N dc) (.slice lv M lc))).alloc (topJ (.int .i64 wd) (.slice dv' N dc') (.slice lv' M lc'))) from ⟨new_old _ _ (new_0 _ _), new_1 _ _ _, HB.out _ _⟩)
        go_enter Tryz.func11, Tryz.ntmps11
        go_wp2_with fail
        go_loopw [5] (fun i wr => ∃ k : Nat, k ≤ N ∧ i = .int .i64 k ∧ Hid (TwI w (topJ (.int .i64 wd) (.slice dv N dc) (.slice lv M lc)) (topJ (.int .i64 wd) (.slice dv' N dc') (.slice lv' M lc')) wr) ∧ Hid (∀ i, i < k → dvE ((ds.map (·.1)).getD i dv0) ((ds'.map (·.1)).getD i dv0) = true)) (fun i _ => N - (intOf i).toNat)
        case atStart => exact ⟨0, Nat.zero_le _, rfl, I0, hid fun i h => absurd h (Nat.not_lt_zero _)⟩
        case round =>
          obtain ⟨k, hk, rfl, hI, hA⟩ := hrel
          obtain ⟨s0, s1, s2⟩ := topJ_cells hI.out.one
          obtain ⟨t0, t1, t2⟩ := topJ_cells hI.out.two
          by_cases hlt : k < N
          · obtain ⟨⟨qx, ux, vx⟩, hx⟩ : ∃ z, ds[k]? = some z := ⟨_, List.getElem?_eq_getElem (by have := HN.out; omega)⟩
            obtain ⟨⟨qy, uy, vy⟩, hy⟩ : ∃ z, ds'[k]? = some z := ⟨_, List.getElem?_eq_getElem (by have := HN'.out; omega)⟩
            obtain ⟨D, od, rfl, hDl, hdc⟩ := HDV.out.resolve_left (fun e => by rw [e] at hx; simp at hx)
            obtain ⟨D', od', rfl, hDl', hdc'⟩ := HDV'.out.resolve_left (fun e => by rw [e] at hy; simp at hy)
            have hw1 : wr.heap[D]? = w.heap[D]? := hI.out.below.block D hDl
            have hw2 : wr.heap[D']? = w.heap[D']? := hI.out.below.block D' hDl'
            obtain ⟨z0, z1, z2⟩ := hdc k _ hx
            obtain ⟨z3, z4, z5⟩ := hdc' k _ hy
            have y0 := (World.cell?_of_block (a := ⟨D, od + k * 3, none⟩) hw1).trans z0
            have y1 := (World.cell?_of_block (a := ⟨D, od + k * 3 + 1, none⟩) hw1).trans z1
            have y2 := (World.cell?_of_block (a := ⟨D, od + k * 3 + 2, none⟩) hw1).trans z2
            have y3 := (World.cell?_of_block (a := ⟨D', od' + k * 3, none⟩) hw2).trans z3
            have y4 := (World.cell?_of_block (a := ⟨D', od' + k * 3 + 1, none⟩) hw2).trans z4
            have y5 := (World.cell?_of_block (a := ⟨D', od' + k * 3 + 2, none⟩) hw2).trans z5
            simp only at y0 y1 y2 y3 y4 y5
            have kI : (k : Int) < (N : Int) := by omega
            have k0I : (0 : Int) ≤ (k : Int) := by omega
            have HDE := hid (show dvE ((ds.map (·.1)).getD k dv0) ((ds'.map (·.1)).getD k dv0) = ((decide (qx.name = qy.name) && decide (qx.cls = qy.cls)) && decide (qx.prt = qy.prt)) by
              rw [getD_at (show (ds.map (·.1))[k]? = some qx by rw [List.getElem?_map, hx]; rfl), getD_at (show (ds'.map (·.1))[k]? = some qy by rw [List.getElem?_map, hy]; rfl)]; rfl)
            obtain ⟨hc1, hl1⟩ := HD.out.cls _ (List.mem_of_getElem? hx)
            obtain ⟨hp1, hm1⟩ := HD.out.prt _ (List.mem_of_getElem? hx)
            obtain ⟨hc2, hl2⟩ := HD'.out.cls _ (List.mem_of_getElem? hy)
            obtain ⟨hp2, hm2⟩ := HD'.out.prt _ (List.mem_of_getElem? hy)
            simp only at hc1 hl1 hp1 hm1 hc2 hl2 hp2 hm2
            have HTC := hid (fun (W : World) (hb : Below w.heap.size w W) => RTexts_exact (hc1.below hb) (hc2.below hb) hl1 hl2)
            have HTP := hid (fun (W : World) (hb : Below w.heap.size w W) => RTexts_exact (hp1.below hb) (hp2.below hb) hm1 hm2)
            obtain ⟨a1, c1, e1, -⟩ := hc1
            obtain ⟨a2, c2, e2, -⟩ := hc2
            obtain ⟨a3, c3, e3, -⟩ := hp1
            obtain ⟨a4, c4, e4, -⟩ := hp2
            subst e1; subst e2; subst e3; subst e4
            obtain ⟨L1, g1⟩ : ∃ L, L = qx.cls.length := ⟨_, rfl⟩
            obtain ⟨L2, g2⟩ : ∃ L, L = qy.cls.length := ⟨_, rfl⟩
            obtain ⟨L3, g3⟩ : ∃ L, L = qx.prt.length := ⟨_, rfl⟩
            obtain ⟨L4, g4⟩ : ∃ L, L = qy.prt.length := ⟨_, rfl⟩
            rw [← g1] at y1 HTC
            rw [← g2] at y4 HTC
            rw [← g3] at y2 HTP
            rw [← g4] at y5 HTP
            obtain ⟨bc, hbc⟩ : ∃ b, b = decide (qx.cls = qy.cls) := ⟨_, rfl⟩
            obtain ⟨bp, hbp⟩ : ∃ b, b = decide (qx.prt = qy.prt) := ⟨_, rfl⟩
            rw [← hbc] at HTC HDE
            rw [← hbp] at HTP HDE
            have HI := hid hI.out
            clear z0 z1 z2 z3 z4 z5 hx hy hdc hdc' hw1 hw2 hl1 hl2 hm1 hm2 g1 g2 g3 g4 hbc hbp
            have A1 := hid (two_boxes wr (dvOJ qx.name (.slice a1 L1 c1) (.slice a3 L3 c3)) (dvOJ qy.name (.slice a2 L2 c2) (.slice a4 L4 c4)))
            have A2 := hid (two_boxes wr (dvOJ qy.name (.slice a2 L2 c2) (.slice a4 L4 c4)) (dvOJ qx.name (.slice a1 L1 c1) (.slice a3 L3 c3)))
            have y0a := alloc_cell y0 (cell_ltP y0)
            have y0b := fun ob => alloc_cell (y0a ob) (cell_ltP (y0a ob))
            have y1a := alloc_cell y1 (cell_ltP y1)
            have y1b := fun ob => alloc_cell (y1a ob) (cell_ltP (y1a ob))
            have y2a := alloc_cell y2 (cell_ltP y2)
            have y2b := fun ob => alloc_cell (y2a ob) (cell_ltP (y2a ob))
            have y3a := alloc_cell y3 (cell_ltP y3)
            have y3b := fun ob => alloc_cell (y3a ob) (cell_ltP (y3a ob))
            have y4a := alloc_cell y4 (cell_ltP y4)
            have y4b := fun ob => alloc_cell (y4a ob) (cell_ltP (y4a ob))
            have y5a := alloc_cell y5 (cell_ltP y5)
            have y5b := fun ob => alloc_cell (y5a ob) (cell_ltP (y5a ob))
            have s1a := alloc_cell s1 (cell_ltP s1)
            have s1b := fun ob => alloc_cell (s1a ob) (cell_ltP (s1a ob))
            have t1a := alloc_cell t1 (cell_ltP t1)
            have t1b := fun ob => alloc_cell (t1a ob) (cell_ltP (t1a ob))
            go_upto_region 6 with fail
            go_cut [6, 7] (fun x6 x7 wx => ∃ p q : Nat, x6 = .pointer (some ⟨p, 0, none⟩) ∧ x7 = .pointer (some ⟨q, 0, none⟩) ∧ Hid (wx.heap[p]? = some (dvOJ qx.name (.slice a1 L1 c1) (.slice a3 L3 c3)) ∧ wx.heap[q]? = some (dvOJ qy.name (.slice a2 L2 c2) (.slice a4 L4 c4)) ∧ Below wr.heap.size wr wx))
            case first =>
              go_region
              all_goals (go_wp2_with fail; go_meet; first | exact ⟨_, _, rfl, rfl, hid ⟨A1.out.1, A1.out.2.1, A1.out.2.2⟩⟩ | exact ⟨_, _, rfl, rfl, hid ⟨A2.out.2.1, A2.out.1, A2.out.2.2⟩⟩)
            case rest =>
              obtain ⟨p, q, rfl, rfl, hC⟩ := hcut
              obtain ⟨r0, r1, r2⟩ := dvOJ_cells hC.out.1
              obtain ⟨u0, u1, u2⟩ := dvOJ_cells hC.out.2.1
              have HI2 := hid (HI.out.on hC.out.2.2)
              have hpl := lt_of_block hC.out.1
              have hql := lt_of_block hC.out.2.1
              clear y0 y1 y2 y3 y4 y5 s0 s1 s2 t0 t1 t2 y0a y0b y1a y1b y2a y2b y3a y3b y4a y4b y5a y5b s1a s1b t1a t1b A1 A2
              by_cases hn : qx.name = qy.name
              case neg =>
                have e1 : (qx.name != qy.name) = true := by rw [bne_iff_ne]; exact hn
                have e2 : (qx.name == qy.name) = false := by rw [beq_eq_false_iff_ne]; exact hn
                have HE := hid (show sameT wd (ds.map (·.1)) ls wd (ds'.map (·.1)) ls' = false by
                  rw [HSS.out, allN_false hlt (by rw [HDE.out, decide_eq_false hn]; rfl)]; rfl)
                clear hn
                go_wp2
                go_ret
                exact ⟨by rw [HE.out]; rfl, HI2.out.below⟩
              case pos =>
                have HNM := hid (decide_eq_true hn)
                rw [hn] at r0
                have e1 : (qy.name != qy.name) = false := by simp
                clear hn
                go_wp2_with fail
                refine (HTC.out _ HI2.out.below).mono ?_
                rintro en w6 ⟨rfl, n6, rfl⟩
                cases bc with
                | false =>
                  have HE := hid (show sameT wd (ds.map (·.1)) ls wd (ds'.map (·.1)) ls' = false by
                    rw [HSS.out, allN_false hlt (by rw [HDE.out, HNM.out]; rfl)]; rfl)
                  go_wp2
                  go_ret
                  exact ⟨by rw [HE.out]; rfl, below_drewN HI2.out.below⟩
                | true =>
                  go_wp2_with fail
                  refine (HTP.out _ (below_drewN HI2.out.below)).mono ?_
                  rintro en w7 ⟨rfl, n7, rfl⟩
                  cases bp with
                  | false =>
                    have HE := hid (show sameT wd (ds.map (·.1)) ls wd (ds'.map (·.1)) ls' = false by
                      rw [HSS.out, allN_false hlt (by rw [HDE.out, HNM.out]; rfl)]; rfl)
                    go_wp2
                    go_ret
                    exact ⟨by rw [HE.out]; rfl, below_drewN HI2.out.below⟩
                  | true =>
                    have HA2 := hid (show ∀ i, i < k + 1 → dvE ((ds.map (·.1)).getD i dv0) ((ds'.map (·.1)).getD i dv0) = true from fun i hi => by
                      by_cases e : i = k
                      · rw [e, HDE.out, HNM.out]; rfl
                      · exact hA.out i (by omega))
                    have HI3 := hid (fun n => HI2.out.on (w' := wc.drewN n) ⟨rfl, rfl, rfl, Nat.le_refl _, fun _ _ => rfl⟩)
                    go_wp2
                    go_roundw
                    case rel => exact ⟨k + 1, by omega, by go_num, hid (HI3.out _), HA2⟩
                    case measure => simp [intOf]; omega
          · have hkI : ¬ (k : Int) < (N : Int) := by omega
            have HA1 := hid (show allN N (fun i => dvE ((ds.map (·.1)).getD i dv0) ((ds'.map (·.1)).getD i dv0)) = true from allN_iff.2 fun i hi => hA.out i (by omega))
            clear hA hlt
            go_wp2_with fail
            go_loopw [8] (fun i wz => ∃ j : Nat, j ≤ M ∧ i = .int .i64 j ∧ Hid (TwI w (topJ (.int .i64 wd) (.slice dv N dc) (.slice lv M lc)) (topJ (.int .i64 wd) (.slice dv' N dc') (.slice lv' M lc')) wz) ∧ Hid (∀ i, i < j → lkE (ls.getD i lk0) (ls'.getD i lk0) = true)) (fun i _ => M - (intOf i).toNat)
            case atStart => exact ⟨0, Nat.zero_le _, rfl, hI, hid fun i h => absurd h (Nat.not_lt_zero _)⟩
            case round =>
              obtain ⟨j, hj, rfl, hJ, hA⟩ := hrel
              rename World => wz
              clear s0 s1 s2 t0 t1 t2
              obtain ⟨s0, s1, s2⟩ := topJ_cells hJ.out.one
              obtain ⟨t0, t1, t2⟩ := topJ_cells hJ.out.two
              by_cases hlt : j < M
              · obtain ⟨⟨a, p, b, q⟩, hx⟩ : ∃ z, ls[j]? = some z := ⟨_, List.getElem?_eq_getElem (by have := HM.out; omega)⟩
                obtain ⟨⟨a', p', b', q'⟩, hy⟩ : ∃ z, ls'[j]? = some z := ⟨_, List.getElem?_eq_getElem (by have := HM'.out; omega)⟩
                obtain ⟨G, o, rfl, hGl, hgc⟩ := HLV.out.resolve_left (fun e => by rw [e] at hx; simp at hx)
                obtain ⟨G', o', rfl, hGl', hgc'⟩ := HLV'.out.resolve_left (fun e => by rw [e] at hy; simp at hy)
                have hw1 : wz.heap[G]? = w.heap[G]? := hJ.out.below.block G hGl
                have hw2 : wz.heap[G']? = w.heap[G']? := hJ.out.below.block G' hGl'
                obtain ⟨z0, z1, z2, z3⟩ := hgc j _ hx
                obtain ⟨z4, z5, z6, z7⟩ := hgc' j _ hy
                have y0 := (World.cell?_of_block (a := ⟨G, o + j * 4, none⟩) hw1).trans z0
                have y1 := (World.cell?_of_block (a := ⟨G, o + j * 4 + 1, none⟩) hw1).trans z1
                have y2 := (World.cell?_of_block (a := ⟨G, o + j * 4 + 2, none⟩) hw1).trans z2
                have y3 := (World.cell?_of_block (a := ⟨G, o + j * 4 + 3, none⟩) hw1).trans z3
                have y4 := (World.cell?_of_block (a := ⟨G', o' + j * 4, none⟩) hw2).trans z4
                have y5 := (World.cell?_of_block (a := ⟨G', o' + j * 4 + 1, none⟩) hw2).trans z5
                have y6 := (World.cell?_of_block (a := ⟨G', o' + j * 4 + 2, none⟩) hw2).trans z6
                have y7 := (World.cell?_of_block (a := ⟨G', o' + j * 4 + 3, none⟩) hw2).trans z7
                simp only at y0 y1 y2 y3 y4 y5 y6 y7
                have jI : (j : Int) < (M : Int) := by omega
                have j0I : (0 : Int) ≤ (j : Int) := by omega
                have HLE := hid (show lkE (ls.getD j lk0) (ls'.getD j lk0) = decide (a = a' ∧ p = p' ∧ b = b' ∧ q = q') by
                  rw [getD_at hx, getD_at hy]; rfl)
                have hNE : ∀ w : World, (binOp .neq 83 (.agg #[.int .i64 a, .string (tx p), .int .i64 b, .string (tx q)]) (.agg #[.int .i64 a', .string (tx p'), .int .i64 b', .string (tx q')])).run Tryz.prog w = .ok (.bool (!decide (a = a' ∧ p = p' ∧ b = b' ∧ q = q'))) w := fun w => lkNeJ a a' b b' p p' q q' w
                obtain ⟨bl, hbl⟩ : ∃ bl, bl = decide (a = a' ∧ p = p' ∧ b = b' ∧ q = q') := ⟨_, rfl⟩
                rw [← hbl] at HLE
                simp only [← hbl] at hNE
                clear z0 z1 z2 z3 z4 z5 z6 z7 hx hy hgc hgc' hw1 hw2 hbl
                cases bl with
                | false =>
                  have HE := hid (show sameT wd (ds.map (·.1)) ls wd (ds'.map (·.1)) ls' = false by
                    rw [HSS.out, HA1.out, allN_false hlt HLE.out]; rfl)
                  simp only [Bool.not_false] at hNE
                  go_wp2_with fail
                  go_quiet (fail)
                  go_wp2
                  go_ret
                  exact ⟨by rw [HE.out]; rfl, below_drewN hJ.out.below⟩
                | true =>
                  have HA2 := hid (show ∀ i, i < j + 1 → lkE (ls.getD i lk0) (ls'.getD i lk0) = true from fun i hi => by
                    by_cases e : i = j
                    · rw [e]; exact HLE.out
                    · exact hA.out i (by omega))
                  have HJ3 := hid (fun n => hJ.out.on (w' := wz.drewN n) ⟨rfl, rfl, rfl, Nat.le_refl _, fun _ _ => rfl⟩)
                  simp only [Bool.not_true] at hNE
                  go_wp2_with fail
                  go_quiet (fail)
                  go_wp2
                  go_roundw
                  case rel => exact ⟨j + 1, by omega, by go_num, hid (HJ3.out _), HA2⟩
                  case measure => simp [intOf]; omega
              · have HE := hid (show sameT wd (ds.map (·.1)) ls wd (ds'.map (·.1)) ls' = true by
                  rw [HSS.out, HA1.out, allN_iff.2 fun i hi => hA.out i (by omega)]; rfl)
                go_wp2
                go_ret
                exact ⟨by rw [HE.out]; rfl, hJ.out.below⟩
end Go.Proofs.YtebaopiedlioiaaGreatDoor
