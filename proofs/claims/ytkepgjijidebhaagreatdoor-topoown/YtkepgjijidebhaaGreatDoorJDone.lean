/-
  The document's done: devices and links in order.
-/
import Derived.Test.YtkepgjijidebhaaGreatDoorJDocD
import Derived.Test.YtkepgjijidebhaaGreatDoorJParBAnd
import Derived.Test.YtkepgjijidebhaaGreatDoorJDocNAnd
import Derived.Deep.CutBlock
namespace Go.Proofs.YtkepgjijidebhaaGreatDoor
open Go.RowKit
open Wo (Wd)
namespace Dt

/-- The devices so far, in order, in a row of one's own. -/
structure DnA (w : World) (vs : List (To.Dv × Value × Value)) (j : Nat) (vo : Value) (S : List (To.Dv × Value × Value)) (wr : World) : Prop where
  low : Below w.heap.size w wr
  perm : S.Perm (vs.take j)
  up : S.Pairwise fun a b => ¬ b.1.name < a.1.name
  row : wr.ownsRow w.heap.size 80 3 vo j (flatD S)
theorem DnA.len {w wr : World} {vs S : List (To.Dv × Value × Value)} {j : Nat} {vo : Value} (h : DnA w vs j vo S wr) (hj : j ≤ vs.length) : S.length = j := by
  rw [h.perm.length_eq, List.length_take]; omega
theorem DnA.drew {w wr : World} {vs S : List (To.Dv × Value × Value)} {j : Nat} {vo : Value} (h : DnA w vs j vo S wr) (n : Nat) : DnA w vs j vo S (wr.drewN n) :=
  ⟨below_drewN h.low, h.perm, h.up, own_sameJ h.row fun _ _ => rfl⟩
/-- A row's cells, for reading: none, or from an address on. -/
theorem own_rdJ {w : World} {B : Nat} {e : TypeId} {s : Nat} {bo : Option Addr} {n c : Nat} {xs : List Value} (h : w.ownsRow B e s (.slice bo n c) n xs) : (bo = none ∧ n = 0 ∧ c = 0 ∧ xs = []) ∨ ∃ g, bo = some ⟨g, 0, none⟩ ∧ B ≤ g ∧ n ≤ c ∧ g < w.heap.size ∧ ∀ (j : Nat) (u : Value), xs[j]? = some u → w.cell? ⟨g, j, none⟩ = some u := by
  rcases h.2 with ⟨e, h0⟩ | ⟨g, cap, cur, e, hB, hh, hn, _, _, ht⟩
  · injection e with e1 e2 e3
    have h1 := h.1
    rw [e2, Nat.zero_mul] at h1
    exact Or.inl ⟨e1, e2, e3, List.length_eq_zero_iff.1 h1⟩
  · injection e with e1 e2 e3
    refine Or.inr ⟨g, e1, hB, by omega, lt_of_block hh, fun j u hj => ?_⟩
    rw [cell_at hh, ← Array.getElem?_toList]
    rw [← ht, List.getElem?_take] at hj
    split at hj
    · exact hj
    · cases hj
theorem flatD_len (ds : List (To.Dv × Value × Value)) : (flatD ds).length = ds.length * 3 := flat_len (enc := fun q : To.Dv × Value × Value => [.string (tx q.1.name), q.2.1, q.2.2]) (fun _ => rfl) ds
theorem flatD_app (a b : List (To.Dv × Value × Value)) : flatD (a ++ b) = flatD a ++ flatD b := List.flatMap_append
theorem grownG {B : Nat} {w X w5 : World} {e : TypeId} {s n : Nat} {v : Value} {xs : List Value} (hX : Below B w X) (h : X.ownsRow B e s v n xs) (hg : X.grownBy w5 v.ownBlock) (hB : B ≤ X.heap.size) : Below B w w5 :=
  ⟨hg.os.trans hX.os, hg.tape.trans hX.tape, hg.output.trans hX.output, Nat.le_trans hX.size hg.size, fun i hi => by
    rw [hg.block i (by omega) (fun r => by have := (h.lt i r.symm).1; omega), hX.block i hi]⟩
/-- One more device, at its place. -/
theorem DnA.next {w wr w7 : World} {vs S : List (To.Dv × Value × Value)} {j k : Nat} {vo v7 : Value} {q : To.Dv × Value × Value} (h : DnA w vs j vo S wr) (hq : vs[j]? = some q) (hk : k ≤ j) (h1 : ∀ (i : Nat) (y : To.Dv × Value × Value), k ≤ i → S[i]? = some y → q.1.name < y.1.name) (h2 : ∀ (i : Nat) (y : To.Dv × Value × Value), i + 1 = k → S[i]? = some y → ¬ q.1.name < y.1.name) (hl : Below w.heap.size w w7)
    (ho : w7.ownsRow w.heap.size 80 3 v7 (j + 1) (flatD (S.take k) ++ [.string (tx q.1.name), q.2.1, q.2.2] ++ flatD (S.drop k))) : DnA w vs (j + 1) v7 (S.take k ++ q :: S.drop k) w7 := by
  have hjl := (List.getElem?_eq_some_iff.1 hq).1
  have hSl := h.len (Nat.le_of_lt hjl)
  refine ⟨hl, ?_, ?_, ?_⟩
  · have e : vs.take (j + 1) = vs.take j ++ [q] := by
      rw [List.take_succ_eq_append_getElem hjl]
      congr 2
      rw [List.getElem?_eq_getElem hjl] at hq
      exact Option.some.inj hq
    rw [e]
    exact (ins_perm S k q).trans (h.perm.append_right _)
  · exact ins_sorted (lt := fun a b : To.Dv × Value × Value => a.1.name < b.1.name) (by omega) h.up h1 h2 (fun a b p r => List.lt_irrefl _ (List.lt_trans p r)) (fun a b c p r => lt_notB p r)
  · have e : flatD (S.take k ++ q :: S.drop k) = flatD (S.take k) ++ [.string (tx q.1.name), q.2.1, q.2.2] ++ flatD (S.drop k) := by
      rw [flatD_app, List.append_assoc]; rfl
    rw [e]; exact ho
theorem step_append_srcD {P : Program} (w : World) {ops : Array Oper} {o : Oper} {a : Act} {K : Act → World → Prop} {Q : Exit → Act → World → Prop} {E : Prop} (hgd : o.guard = none) (s x : Operand) (t : TypeId)
    (ho : o.op = .call { callee := .builtin .append, args := #[s, x], argTypes := #[t, t] })
    (base : Nat) (e : TypeId) (i : TypeInfo) (z : Value) (size bytes : Nat) (ht : P.underlying t = some (.slice e)) (hi : P.info? e = some i) (hz : i.zero = some z)
    (hsize : i.size = size) (hby : i.bytes = bytes) (hzs : z.cells.size = size) (hsz : 0 < size)
    (v : Value) (n : Nat) (xs : List Value) (hs : a.eval s = v) (hown : w.ownsRow base e size v n xs)
    (vx : Value) (m : Nat) (news : List Value) (hx : a.eval x = vx) (hsrc : (vx = .slice none 0 0 ∧ m = 0 ∧ news = []) ∨ ∃ ad c, vx = .slice (some ad) m c ∧ news.length = m * size ∧ ∀ j u, news[j]? = some u → w.cell? (ad.add j) = some u) (h1 : ∀ u ∈ news, u.oneCell' = true)
    (h63 : n + m ≤ maxLen) (hbytes : (n + m) * bytes ≤ 140737488355328) (hbase : base ≤ w.heap.size)
    (h : ∀ v' w', w'.ownsRow base e size v' (n + m) (xs ++ news) → w.grownBy w' v.ownBlock → K (a.put o.dst v') w') :
    if Region.wanted o (yielded ops a.tmps) = true then Oper.wp P o a w K Q else E := by
  have hw : Region.wanted o (yielded ops a.tmps) = true := by simp [Region.wanted, hgd]
  rw [if_pos hw]
  rcases hsrc with ⟨rfl, rfl, rfl⟩ | ⟨ad, cap, rfl, hl, hc⟩
  · have hrun := run_append_owned_none (P := P) (w := w) base t o.type e i size ht hi v n xs hown
    unfold Oper.wp
    simp [execOp, ho, resolve, invoke, builtin, hs, hx, hrun, Result.andThen]
    exact h v w (by simpa using hown) (growRefl _ _)
  · obtain ⟨v', w', hrun, h2, h3, _, _⟩ := run_append_own_at (P := P) w base t o.type e i z size bytes ht hi hz hsize hby hzs hsz v n xs hown ad m cap news hl hc h1 h63 hbytes hbase
    unfold Oper.wp
    simp [execOp, ho, resolve, invoke, builtin, hs, hx, hrun, Result.andThen]
    exact h v' w' h2 h3
/-- A row that is built anew. -/
structure NxD {e : TypeId} {s : Nat} (w2 w6 : World) (v6 : Value) (n : Nat) (xs : List Value) : Prop where
  low : Below w2.heap.size w2 w6
  own : w6.ownsRow w2.heap.size e s v6 n xs
theorem flatD_one {ds : List (To.Dv × Value × Value)} (h : ∀ q ∈ ds, (∃ a n c, q.2.1 = .slice a n c) ∧ ∃ a n c, q.2.2 = .slice a n c) : ∀ u ∈ flatD ds, u.oneCell' = true := by
  intro u hu
  obtain ⟨q, hq, hu⟩ := List.mem_flatMap.1 hu
  obtain ⟨⟨a, n, c, e1⟩, a', n', c', e2⟩ := h q hq
  simp only [List.mem_cons, List.not_mem_nil, or_false] at hu
  rcases hu with rfl | rfl | rfl
  · rfl
  · rw [e1]; rfl
  · rw [e2]; rfl
theorem addJ (g i t : Nat) : (⟨g, i, none⟩ : Addr).add t = ⟨g, i + t, none⟩ := by unfold Addr.add; split <;> simp_all
/-- The links so far, in order, in a row of one's own. -/
structure DnB (w : World) (L : List To.Lk) (j : Nat) (vo : Value) (S : List To.Lk) (wr : World) : Prop where
  low : Below w.heap.size w wr
  perm : S.Perm (L.take j)
  up : S.Pairwise fun a b => ¬ ocE b.a b.p a.a a.p < 0
  row : wr.ownsRow w.heap.size 83 4 vo j (flatL S)
theorem DnB.len {w wr : World} {L S : List To.Lk} {j : Nat} {vo : Value} (h : DnB w L j vo S wr) (hj : j ≤ L.length) : S.length = j := by
  rw [h.perm.length_eq, List.length_take]; omega
theorem DnB.drew {w wr : World} {L S : List To.Lk} {j : Nat} {vo : Value} (h : DnB w L j vo S wr) (n : Nat) : DnB w L j vo S (wr.drewN n) :=
  ⟨below_drewN h.low, h.perm, h.up, own_sameJ h.row fun _ _ => rfl⟩
theorem flatL_oneJ (ls : List To.Lk) : ∀ u ∈ flatL ls, u.oneCell' = true := by
  intro u hu
  obtain ⟨q, -, hu⟩ := List.mem_flatMap.1 hu
  unfold lkL at hu
  simp only [List.mem_cons, List.not_mem_nil, or_false] at hu
  rcases hu with rfl | rfl | rfl | rfl <;> rfl
/-- One more link, at its place. -/
theorem DnB.next {w wr w7 : World} {L S : List To.Lk} {j k : Nat} {vo v7 : Value} {q : To.Lk} (h : DnB w L j vo S wr) (hq : L[j]? = some q) (hk : k ≤ j) (h1 : ∀ (i : Nat) (y : To.Lk), k ≤ i → S[i]? = some y → endLt (lowE q) (lowE y)) (h2 : ∀ (i : Nat) (y : To.Lk), i + 1 = k → S[i]? = some y → ¬ endLt (lowE q) (lowE y)) (hl : Below w.heap.size w w7)
    (ho : w7.ownsRow w.heap.size 83 4 v7 (j + 1) (flatL (S.take k) ++ lkL q ++ flatL (S.drop k))) : DnB w L (j + 1) v7 (S.take k ++ q :: S.drop k) w7 := by
  have hjl := (List.getElem?_eq_some_iff.1 hq).1
  have hSl := h.len (Nat.le_of_lt hjl)
  refine ⟨hl, ?_, ?_, ?_⟩
  · have e : L.take (j + 1) = L.take j ++ [q] := by
      rw [List.take_succ_eq_append_getElem hjl]
      congr 2
      rw [List.getElem?_eq_getElem hjl] at hq
      exact Option.some.inj hq
    rw [e]
    exact (ins_perm S k q).trans (h.perm.append_right _)
  · exact ins_sorted (lt := fun a b : To.Lk => endLt (lowE a) (lowE b)) (by omega) h.up h1 h2 (fun a b p => endLt_asymm p) (fun a b c p r => endLt_trans p r)
  · have e : flatL (S.take k ++ q :: S.drop k) = flatL (S.take k) ++ lkL q ++ flatL (S.drop k) := by
      rw [flatL_app, List.append_assoc]; rfl
    rw [e]; exact ho
theorem befB_end (x y : LkZ) (q r : To.Lk) (h1 : x.1 = q.a) (h2 : x.2.1 = q.p) (h3 : y.1 = r.a) (h4 : y.2.1 = r.p) : (befB x y = true ↔ endLt (lowE q) (lowE r)) := by
  rw [endLt_iff]
  unfold befB lowE
  rw [h1, h2, h3, h4]
  simp only
  by_cases e : (q.a : Int) = r.a
  · rw [if_pos e, decide_eq_true_iff]
    exact ⟨fun h => .inr ⟨by omega, h⟩, fun h => by rcases h with h | h; omega; exact h.2⟩
  · rw [if_neg e, decide_eq_true_iff]
    exact ⟨fun h => .inl (by omega), fun h => by rcases h with h | h; omega; omega⟩
/-- The world behind the devices: what stands still while links are put in order. -/
structure DnW (B : Nat) (w1 : World) (pb : Nat) (wd : Int) (x2 vo vn : Value) (S : List (To.Dv × Value × Value)) (M : Nat) (ns : List NmZ) : Prop where
  pb_ : w1.heap[pb]? = some (.cells #[.int .i64 wd, vo, x2, vn] 68 (0, 0))
  dvs : DvO B w1 vo S
  nms : w1.ownsRow B 127 4 vn M (flatN ns)
theorem DnW.on {B : Nat} {w1 W : World} {pb : Nat} {wd : Int} {x2 vo vn : Value} {S : List (To.Dv × Value × Value)} {M : Nat} {ns : List NmZ} (h : DnW B w1 pb wd x2 vo vn S M ns) (hb : Below w1.heap.size w1 W) : DnW B W pb wd x2 vo vn S M ns :=
  ⟨(hb.block pb (lt_of_block h.pb_)).trans h.pb_, h.dvs.keep fun k _ hk => hb.block k hk, own_sameJ h.nms fun k q => hb.block k (h.nms.lt k q).2⟩
/-- The devices are put into the parser. -/
theorem dn_set {B : Nat} {W0 wc : World} {pb N M : Nat} {wd : Int} {x2 vd vo vn : Value} {vs S : List (To.Dv × Value × Value)} {ns : List NmZ} (hA : DnA W0 vs N vo S wc) (hp : W0.heap[pb]? = some (.cells #[.int .i64 wd, vd, x2, vn] 68 (0, 0))) (hD : DvO B W0 vd vs) (hN : N = vs.length) (hO : W0.ownsRow B 127 4 vn M (flatN ns)) (hB : B ≤ W0.heap.size) :
    DnW B (wc.setCell ⟨pb, 1, none⟩ vo) pb wd x2 vo vn S M ns ∧ (wc.setCell ⟨pb, 1, none⟩ vo).heap.size = wc.heap.size := by
  have hpl := lt_of_block hp
  have hpw : wc.heap[pb]? = some (.cells #[.int .i64 wd, vd, x2, vn] 68 (0, 0)) := (hA.low.block pb hpl).trans hp
  have hk : ∀ k, k ≠ pb → k < W0.heap.size → (wc.setCell ⟨pb, 1, none⟩ vo).heap[k]? = W0.heap[k]? := fun k h1 h2 => by rw [Below.heap_setCell _ _ _ _ h1, hA.low.block k h2]
  have hSv : ∀ q ∈ S, q ∈ vs := fun q hq => List.mem_of_mem_take (hA.perm.mem_iff.1 hq)
  refine ⟨⟨?_, ⟨?_, fun q hq => ?_, fun q hq => ?_⟩, ?_⟩, by simp⟩
  · rw [block_set (o := 1) _ hpw]; rfl
  · have hr := hA.row
    have hl := hA.len (Nat.le_of_eq hN)
    rw [← hl] at hr
    exact own_baseJ (own_sameJ hr fun k r => Below.heap_setCell _ _ _ _ (fun e => own_notJ hr hpw Tryz.devNeP (by rw [r]; exact congrArg some e))) hB
  · have hc := hD.cls q (hSv q hq)
    exact own_sameJ hc fun k r => hk k (fun e => own_notJ hc hp Tryz.strNeP (by rw [r]; exact congrArg some e)) (hc.lt k r).2
  · have hc := hD.prt q (hSv q hq)
    exact own_sameJ hc fun k r => hk k (fun e => own_notJ hc hp Tryz.strNeP (by rw [r]; exact congrArg some e)) (hc.lt k r).2
  · exact own_sameJ hO fun k r => hk k (fun e => own_notJ hO hp Tryz.namNeP (by rw [r]; exact congrArg some e)) (hO.lt k r).2
theorem Tryz.devNeT : (80 : TypeId) ≠ 25 := by decide
theorem Tryz.strNeT : (9 : TypeId) ≠ 25 := by decide
theorem Tryz.lnkNeT : (83 : TypeId) ≠ 25 := by decide
theorem Tryz.lnkNeP : (83 : TypeId) ≠ 68 := by decide
theorem Tryz.mixedJ : Tryz.prog.follows Departure.mixedOrders = true := by kernel_rfl

set_option maxRecDepth 20000 in
set_option maxHeartbeats 40000000 in
theorem Rdone_any {B : Nat} {w : World} {pb : Nat} {wd : Int} {x2 : Value} {dv nv : Option Addr} {N dc M nc : Nat} {vs : List (To.Dv × Value × Value)} {ns : List NmZ} (hp : w.heap[pb]? = some (.cells #[.int .i64 wd, .slice dv N dc, x2, .slice nv M nc] 68 (0, 0))) (hD : DvO B w (.slice dv N dc) vs) (hN : N = vs.length) (hO : w.ownsRow B 127 4 (.slice nv M nc) M (flatN ns)) (hM : M = ns.length) (hvn : vs.length ≤ 256) (hnn : ns.length ≤ 4096) (hm : ∀ q ∈ ns, q.1.1 ∈ vs.map (·.1.name) ∧ q.2.1 ∈ vs.map (·.1.name)) (hB : B ≤ w.heap.size) :
    Calls Tryz.prog 35 #[.pointer (some ⟨pb, 0, none⟩)] w fun en w' => ∃ ds' ls' c1 c2, en = .returned (.agg #[.int .i64 wd, c1, c2]) ∧ ds'.Perm vs ∧ ds'.Pairwise (fun a b => ¬ b.1.name < a.1.name) ∧ ls'.Perm (lksN (ds'.map (·.1.name)) ns) ∧ ls'.Pairwise (fun a b => ¬ ocE b.a b.p a.a a.p < 0) ∧ DvO B w' c1 ds' ∧ w'.ownsRow B 83 4 c2 ls'.length (flatL ls') ∧ w.grownBy w' (some pb) := by
  obtain ⟨i0, hi, hz0, hz1, hz2⟩ := info_parts Tryz.infoDevJ
  have HI := hid hi
  have HZ0 := hid hz0
  have HZ1 := hid hz1
  have HZ2 := hid hz2
  clear hi hz0 hz1 hz2
  obtain ⟨W0, hW0⟩ : ∃ W0, W0 = w.alloc (tobJ (.int .i64 0) (.slice none 0 0) (.slice none 0 0)) := ⟨_, rfl⟩
  obtain ⟨R, hR⟩ : ∃ R, R = w.heap.size := ⟨_, rfl⟩
  have hk0 : ∀ k, k < w.heap.size → W0.heap[k]? = w.heap[k]? := fun k hk => by rw [hW0]; exact Below.heap_alloc _ _ _ hk
  have hs0 : W0.heap.size = w.heap.size + 1 := by rw [hW0]; simp
  have HRES := hid (show W0.heap[R]? = some (tobJ (.int .i64 0) (.slice none 0 0) (.slice none 0 0)) from by rw [hW0, hR]; exact new_0 _ _)
  have HW0 := hid (show Below w.heap.size w W0 from by rw [hW0]; exact (Below.refl _ _).alloc (Nat.le_refl _) _)
  have hpl : pb < W0.heap.size := by have := lt_of_block hp; omega
  have HD := hid (hD.keep fun k _ hk => hk0 k hk : DvO B W0 (.slice dv N dc) vs)
  have HPB := hid (fun (W : World) (hb : Below W0.heap.size W0 W) => (hb.block pb hpl).trans ((hk0 pb (lt_of_block hp)).trans hp))
  have HO := hid (own_sameJ hO fun k q => hk0 k (hO.lt k q).2 : W0.ownsRow B 127 4 (.slice nv M nc) M (flatN ns))
  have hRl : R < W0.heap.size := by omega
  have hpR : pb ≠ R := by have := lt_of_block hp; omega
  have HRK := hid (show R = w.heap.size from hR)
  have hB0 : B ≤ W0.heap.size := by omega
  have HNN := hid hN
  have HMM := hid hM
  have hN9 : N ≤ 256 := by omega
  have hM9 : M ≤ 4096 := by omega
  have HMEM := hid hm
  have A0 := hid (show DnA W0 vs 0 (.slice none 0 0) [] W0 from ⟨Below.refl _ _, List.Perm.nil, List.Pairwise.nil, World.ownsRow_nil _ _ _ _⟩)
  obtain ⟨av, cap, eD, hDf⟩ := HD.out.lies.form
  injection eD with eD1 eD2 eD3
  subst eD1; subst eD3
  have HDF := hid hDf
  have HWK := hid (fun (k : Nat) (hk : k < w.heap.size) => hk0 k hk)
  clear hp hD hO hM hN hm hnn hvn eD2 hDf hs0 hk0
  go_enter Tryz.func35, Tryz.ntmps35
  go_upto_block 0 with fail
  rw [← hR, ← hW0]
  clear hR hW0
  go_cut [3] (fun x3 wx => ∃ (vo : Value) (S : List (To.Dv × Value × Value)), x3 = vo ∧ Hid (DnA W0 vs N vo S wx))
  case first => as_aux_lemma =>
    go_wp2_with fail
    go_loopw [3, 4, 5, 6] (fun vo vi _ _ wr => ∃ (j : Nat) (bo : Option Addr) (bc : Nat) (S : List (To.Dv × Value × Value)), j ≤ N ∧ vi = .int .i64 j ∧ vo = .slice bo j bc ∧ Hid (DnA W0 vs j (.slice bo j bc) S wr)) (fun _ vi _ _ _ => N - (intOf vi).toNat)
    case atStart => exact ⟨0, none, 0, [], Nat.zero_le _, rfl, rfl, A0⟩
    case round =>
      obtain ⟨j, bo, bc, S, hj, rfl, rfl, HA⟩ := hrel
      rename World => w1
      have hpw := HPB.out w1 HA.out.low
      have p1 : w1.cell? ⟨pb, 1, none⟩ = some (.slice dv N dc) := by rw [cell_at hpw]; rfl
      clear hpw
      by_cases hlt : j < N
      · have hI : (j : Int) < (N : Int) := by omega
        have j0 : (0 : Int) ≤ (j : Int) := by omega
        obtain ⟨q, hq⟩ : ∃ q, vs[j]? = some q := ⟨_, List.getElem?_eq_getElem (by have := HNN.out; omega)⟩
        have HQ := hid hq
        obtain ⟨G, o, rfl, hG, hgc⟩ := HDF.out.resolve_left (fun e => by rw [e] at hq; simp at hq)
        have HGC := hid (fun (W : World) (hb : Below W0.heap.size W0 W) => (by
          obtain ⟨z0, z1, z2⟩ := hgc j q hq
          exact ⟨(hb.cell (by exact hG)).trans z0, (hb.cell (by exact hG)).trans z1, (hb.cell (by exact hG)).trans z2⟩ : W.cell? ⟨G, o + j * 3, none⟩ = some (.string (tx q.1.name)) ∧ W.cell? ⟨G, o + j * 3 + 1, none⟩ = some q.2.1 ∧ W.cell? ⟨G, o + j * 3 + 2, none⟩ = some q.2.2))
        clear hgc hq
        go_upto_block 2 with fail
        go_cut [5] (fun x5 wx => ∃ k : Nat, k ≤ j ∧ x5 = .int .i64 k ∧ Hid (DnA W0 vs j (.slice bo j bc) S wx) ∧ Hid (∀ (i : Nat) (y : To.Dv × Value × Value), k ≤ i → S[i]? = some y → q.1.name < y.1.name) ∧ Hid (∀ (i : Nat) (y : To.Dv × Value × Value), i + 1 = k → S[i]? = some y → ¬ q.1.name < y.1.name))
        case first => as_aux_lemma =>
          go_wp2_with fail
          go_loopw [5] (fun vk wr => ∃ k : Nat, k ≤ j ∧ vk = .int .i64 k ∧ Hid (DnA W0 vs j (.slice bo j bc) S wr) ∧ Hid (∀ (i : Nat) (y : To.Dv × Value × Value), k ≤ i → S[i]? = some y → q.1.name < y.1.name)) (fun vk _ => (intOf vk).toNat)
          case atStart => exact ⟨j, Nat.le_refl _, rfl, HA, hid fun i y hi hy => by have h1 := HA.out.len (by rw [← HNN.out]; omega); have h2 := (List.getElem?_eq_some_iff.1 hy).1; omega⟩
          case round =>
            obtain ⟨k, hk, rfl, HX, HU⟩ := hrel
            rename World => w2
            clear p1
            have hpw := HPB.out w2 HX.out.low
            have p1 : w2.cell? ⟨pb, 1, none⟩ = some (.slice (some ⟨G, o, none⟩) N dc) := by rw [cell_at hpw]; rfl
            obtain ⟨e0, e1, e2⟩ := HGC.out w2 HX.out.low
            obtain ⟨nm, hnm⟩ : ∃ nm, nm = q.1.name := ⟨_, rfl⟩
            rw [← hnm] at e0
            have HNM := hid hnm
            clear hpw hnm
            cases k with
            | zero =>
              have HXD := hid (fun n => HX.out.drew n)
              have HLAST := hid (show ∀ (i : Nat) (y : To.Dv × Value × Value), i + 1 = 0 → S[i]? = some y → ¬ q.1.name < y.1.name from fun i y e => by omega)
              go_wp2_with fail
              go_quiet (fail)
              go_wp2_with fail
              go_meet
              exact ⟨0, Nat.zero_le _, rfl, hid (HXD.out _), HU, HLAST⟩
            | succ t =>
              obtain ⟨y, hy⟩ : ∃ y, S[t]? = some y := ⟨_, List.getElem?_eq_getElem (by have h1 := HX.out.len (by rw [← HNN.out]; omega); omega)⟩
              obtain ⟨g2, rfl, _, hbc, hg2, hcl⟩ : ∃ g2, bo = some ⟨g2, 0, none⟩ ∧ W0.heap.size ≤ g2 ∧ j ≤ bc ∧ g2 < w2.heap.size ∧ ∀ (i : Nat) (u : Value), (flatD S)[i]? = some u → w2.cell? ⟨g2, i, none⟩ = some u := by
                rcases own_rdJ HX.out.row with ⟨_, h0, _, _⟩ | h
                · omega
                · exact h
              have d0 := hcl _ _ (flatD_at hy).1
              obtain ⟨ym, hym⟩ : ∃ ym, ym = y.1.name := ⟨_, rfl⟩
              rw [← hym] at d0
              have HYM := hid hym
              have HY := hid hy
              have tI : (t : Int) < (j : Int) := by omega
              have t0 : (0 : Int) ≤ (t : Int) := by omega
              have HXD := hid (fun n => HX.out.drew n)
              clear hcl hy hym
              by_cases hl : nm < ym
              · have h1 : Op.bytesLess ym nm = false := by rw [bytesLess_eq]; exact decide_eq_false (fun r => List.lt_irrefl _ (List.lt_trans hl r))
                have h2 : (ym == nm) = false := by rw [beq_eq_false_iff_ne]; rintro rfl; exact List.lt_irrefl _ hl
                have HU2 := hid (show ∀ (i : Nat) (y : To.Dv × Value × Value), t ≤ i → S[i]? = some y → q.1.name < y.1.name from fun i z hi hz => by
                  by_cases e : i = t
                  · rw [e, HY.out] at hz
                    injection hz with hz
                    rw [← hz, ← HYM.out, ← HNM.out]; exact hl
                  · exact HU.out i z (by omega) hz)
                clear hl
                go_wp2_with fail
                go_quiet (fail)
                go_wp2
                go_roundw
                case rel => exact ⟨t, by omega, by go_num, hid (HXD.out _), HU2⟩
                case measure => simp [intOf]
              · obtain ⟨bl, hbl⟩ : ∃ x, Op.bytesLess ym nm = x := ⟨_, rfl⟩
                obtain ⟨be, hbe⟩ : ∃ x, (ym == nm) = x := ⟨_, rfl⟩
                have HBB := hid (show bl = true ∨ be = true from by
                  rcases Ru.lt_or hl with r | r
                  · left; rw [← hbl, bytesLess_eq]; exact decide_eq_true r
                  · right; rw [← hbe, r]; simp)
                have HLAST := hid (show ∀ (i : Nat) (y : To.Dv × Value × Value), i + 1 = t + 1 → S[i]? = some y → ¬ q.1.name < y.1.name from fun i z e hz => by
                  have e : i = t := by omega
                  rw [e, HY.out] at hz
                  injection hz with hz
                  rw [← hz, ← HYM.out, ← HNM.out]; exact hl)
                clear hl
                cases bl <;> cases be
                case false.false => exact absurd HBB.out (by simp)
                all_goals (
                  go_wp2_with fail
                  go_quiet (fail)
                  go_wp2_with fail
                  go_meet
                  exact ⟨t + 1, by omega, by go_num, hid (HXD.out _), HU, HLAST⟩)
        case rest =>
          obtain ⟨k, hk, rfl, HX, HU, HLAST⟩ := hcut
          rename World => w3
          clear p1
          obtain ⟨d, vc, vp⟩ := q
          obtain ⟨ca, cc, hca⟩ := own_formJ (HD.out.cls _ (List.mem_of_getElem? HQ.out))
          obtain ⟨pa, pc, hpa⟩ := own_formJ (HD.out.prt _ (List.mem_of_getElem? HQ.out))
          simp only at hca hpa
          obtain ⟨cn, hcn⟩ : ∃ n, n = d.cls.length := ⟨_, rfl⟩
          obtain ⟨pn, hpn⟩ : ∃ n, n = d.prt.length := ⟨_, rfl⟩
          rw [← hcn] at hca
          rw [← hpn] at hpa
          subst hca; subst hpa
          obtain ⟨nm, hnm⟩ : ∃ nm, nm = d.name := ⟨_, rfl⟩
          have HNM := hid hnm
          have HKP := hid (fun (W : World) (hW : Below w3.heap.size w3 W) => (by
            have hb := HX.out.low.trans (hW.mono HX.out.low.size)
            obtain ⟨z0, z1, z2⟩ := HGC.out W hb
            simp only at z0 z1 z2
            rw [← hnm] at z0
            exact ⟨by rw [cell_at (HPB.out W hb)]; rfl, z0, z1, z2⟩ : W.cell? ⟨pb, 1, none⟩ = some (.slice (some ⟨G, o, none⟩) N dc) ∧ W.cell? ⟨G, o + j * 3, none⟩ = some (.string (tx nm)) ∧ W.cell? ⟨G, o + j * 3 + 1, none⟩ = some (.slice ca cn cc) ∧ W.cell? ⟨G, o + j * 3 + 2, none⟩ = some (.slice pa pn pc)))
          have HSO := hid (fun (z : To.Dv × Value × Value) (hz : z ∈ S) => (by
            have hz2 : z ∈ vs := List.mem_of_mem_take (HX.out.perm.mem_iff.1 hz)
            obtain ⟨a1, c1, e1⟩ := own_formJ (HD.out.cls z hz2)
            obtain ⟨a2, c2, e2⟩ := own_formJ (HD.out.prt z hz2)
            exact ⟨⟨a1, _, c1, e1⟩, a2, _, c2, e2⟩ : (∃ a n c, z.2.1 = .slice a n c) ∧ ∃ a n c, z.2.2 = .slice a n c))
          have HONE1 := hid (flatD_one (ds := S.take k) fun z hz => HSO.out z (List.mem_of_mem_take hz))
          have HONE3 := hid (flatD_one (ds := S.drop k) fun z hz => HSO.out z (List.mem_of_mem_drop hz))
          have HSL := hid (HX.out.len (by rw [← HNN.out]; omega))
          have hkI : (k : Int) ≤ (j : Int) := by omega
          have hk00 : (0 : Int) ≤ (k : Int) := by omega
          clear hcn hpn hnm
          go_upto_region 8 with fail
          go_cut [6] (fun x6 wx => ∃ a6 c6, x6 = .slice a6 (k + 1) c6 ∧ Hid (Below w3.heap.size w3 wx ∧ wx.ownsRow w3.heap.size 80 3 (.slice a6 (k + 1) c6) (k + 1) (flatD (S.take k) ++ [.string (tx nm), .slice ca cn cc, .slice pa pn pc])))
          case first => as_aux_lemma =>
            rcases own_rdJ HX.out.row with ⟨hb0, hj0, hc0, hS0⟩ | ⟨g2, hb0, hb1, hb2, hb3, hb4⟩
            · subst hb0; subst hj0; subst hc0
              have hk0 : k = 0 := by omega
              subst hk0
              simp only [Nat.zero_mul, Nat.add_zero] at HKP
              clear hS0
              have HB := hid (show Below w3.heap.size w3 w3.drew from (Below.refl _ _).drew)
              have HX1 := hid (HB.out.alloc (Nat.le_refl _) (.cells #[] 80))
              have HX2 := hid (HX1.out.alloc HX1.out.size (dob nm (.slice ca cn cc) (.slice pa pn pc)))
              have HX4 := hid (HB.out.alloc (Nat.le_refl _) (dob nm (.slice ca cn cc) (.slice pa pn pc)))
              have HX3 := hid (HX4.out.alloc HX4.out.size (.cells #[] 80))
              have HW1 := hid (show (w3.drew.alloc (.cells #[] 80)).ownsRow w3.heap.size 80 3 (.slice (some ⟨w3.heap.size, 0, none⟩) 0 0) 0 [] from World.ownsRow_made w3.drew #[] 0 (Nat.le_refl _) (Nat.zero_le _) rfl)
              have HW2 := hid (HW1.out.alloc (dob nm (.slice ca cn cc) (.slice pa pn pc)))
              have HW3 := hid (show ((w3.drew.alloc (dob nm (.slice ca cn cc) (.slice pa pn pc))).alloc (.cells #[] 80)).ownsRow w3.heap.size 80 3 (.slice (some ⟨w3.heap.size + 1, 0, none⟩) 0 0) 0 [] from ⟨rfl, Or.inr ⟨w3.heap.size + 1, 0, #[], rfl, by omega, new_1 _ _ _, Nat.le_refl _, Nat.zero_le _, rfl, rfl⟩⟩)
              have HONE2 := hid (show ∀ u ∈ ([.string (tx nm), .slice ca cn cc, .slice pa pn pc] : List Value), u.oneCell' = true by simp [Value.oneCell'])
              have K0 := HKP.out _ HB.out
              go_wp2_with fail
              go_region_held3 (fun W => W.cell? ⟨pb, 1, none⟩ = some (.slice (some ⟨G, o, none⟩) N dc) ∧ W.cell? ⟨G, o, none⟩ = some (.string (tx nm)) ∧ W.cell? ⟨G, o + 1, none⟩ = some (.slice ca cn cc) ∧ W.cell? ⟨G, o + 2, none⟩ = some (.slice pa pn pc)) (first | exact K6 | exact K0 | exact HKP.out _ HX1.out | exact HKP.out _ HX4.out | exact HKP.out _ HX2.out | exact HKP.out _ HX3.out) (first | (refine step_append_srcD _ rfl (.tmp 50) (.tmp 59) 22 rfl w3.heap.size 80 i0 (.agg #[.string (tx []), .slice none 0 0, .slice none 0 0]) 3 64 Tryz.underlying22 HI.out HZ0.out HZ1.out HZ2.out rfl (by decide) (.slice (some ⟨w3.heap.size, 0, none⟩) 0 0) 0 [] rfl (by exact HW2.out) (.slice (some ⟨w3.heap.size + 1, 0, none⟩) 1 1) 1 [.string (tx nm), .slice ca cn cc, .slice pa pn pc] rfl (Or.inr ⟨⟨w3.heap.size + 1, 0, none⟩, 1, rfl, rfl, World.news_of_block (new_1 _ _ _)⟩) HONE2.out (by unfold maxLen; omega) (by omega) (by exact HX2.out.size) ?_; intro v6 w6 hown6 hgr6; have L6 := hid (grownG HX2.out HW2.out hgr6 HX2.out.size); have K6 := HKP.out w6 L6.out; have F6 := hid (NxD.mk (w2 := w3) L6.out hown6)) | (refine step_append_srcD _ rfl (.tmp 50) (.tmp 59) 22 rfl w3.heap.size 80 i0 (.agg #[.string (tx []), .slice none 0 0, .slice none 0 0]) 3 64 Tryz.underlying22 HI.out HZ0.out HZ1.out HZ2.out rfl (by decide) (.slice (some ⟨w3.heap.size + 1, 0, none⟩) 0 0) 0 [] rfl (by exact HW3.out) (.slice (some ⟨w3.heap.size, 0, none⟩) 1 1) 1 [.string (tx nm), .slice ca cn cc, .slice pa pn pc] rfl (Or.inr ⟨⟨w3.heap.size, 0, none⟩, 1, rfl, rfl, World.news_of_block (new_old _ _ (new_0 _ _))⟩) HONE2.out (by unfold maxLen; omega) (by omega) (by exact HX3.out.size) ?_; intro v6 w6 hown6 hgr6; have L6 := hid (grownG HX3.out HW3.out hgr6 HX3.out.size); have K6 := HKP.out w6 L6.out; have F6 := hid (NxD.mk (w2 := w3) L6.out hown6)))
              all_goals (clear K0)
              all_goals (try clear K6)
              all_goals (
                obtain ⟨a6, c6, hv6⟩ := own_formJ F6.out.own
                subst hv6
                have HR6 := hid (show Below w3.heap.size w3 w6 ∧ w6.ownsRow w3.heap.size 80 3 (.slice a6 (0 + 1) c6) (0 + 1) (flatD (S.take 0) ++ [.string (tx nm), .slice ca cn cc, .slice pa pn pc]) from ⟨F6.out.low, by have q := F6.out.own; simpa [flatD] using q⟩)
                clear F6 L6 hown6 hgr6
                skip
                go_wp2_with fail
                go_meet
                exact ⟨_, _, rfl, HR6⟩)
            · subst hb0
              have HSRC := hid (fun (X : World) (hX : Below w3.heap.size w3 X) => (by
                refine Or.inr ⟨⟨g2, 0, none⟩, bc, rfl, by rw [flatD_len, List.length_take, HSL.out]; omega, fun t u hu => ?_⟩
                rw [addJ, Nat.zero_add, hX.cell (by exact hb3)]
                refine hb4 t u ?_
                have e : flatD S = flatD (S.take k) ++ flatD (S.drop k) := by rw [← flatD_app, List.take_append_drop]
                rw [e, List.getElem?_append_left (List.getElem?_eq_some_iff.1 hu).1]
                exact hu : ((.slice (some ⟨g2, 0, none⟩) k bc : Value) = .slice none 0 0 ∧ k = 0 ∧ flatD (S.take k) = []) ∨ ∃ ad c, (.slice (some ⟨g2, 0, none⟩) k bc : Value) = .slice (some ad) k c ∧ (flatD (S.take k)).length = k * 3 ∧ ∀ t u, (flatD (S.take k))[t]? = some u → X.cell? (ad.add t) = some u))
              have hkc : (k : Int) ≤ (bc : Int) := by omega
              clear hb4
              have HB := hid (show Below w3.heap.size w3 w3.drew from (Below.refl _ _).drew)
              have HX1 := hid (HB.out.alloc (Nat.le_refl _) (.cells #[] 80))
              have HX2 := hid (HX1.out.alloc HX1.out.size (dob nm (.slice ca cn cc) (.slice pa pn pc)))
              have HX4 := hid (HB.out.alloc (Nat.le_refl _) (dob nm (.slice ca cn cc) (.slice pa pn pc)))
              have HX3 := hid (HX4.out.alloc HX4.out.size (.cells #[] 80))
              have HW1 := hid (show (w3.drew.alloc (.cells #[] 80)).ownsRow w3.heap.size 80 3 (.slice (some ⟨w3.heap.size, 0, none⟩) 0 0) 0 [] from World.ownsRow_made w3.drew #[] 0 (Nat.le_refl _) (Nat.zero_le _) rfl)
              have HW2 := hid (HW1.out.alloc (dob nm (.slice ca cn cc) (.slice pa pn pc)))
              have HW3 := hid (show ((w3.drew.alloc (dob nm (.slice ca cn cc) (.slice pa pn pc))).alloc (.cells #[] 80)).ownsRow w3.heap.size 80 3 (.slice (some ⟨w3.heap.size + 1, 0, none⟩) 0 0) 0 [] from ⟨rfl, Or.inr ⟨w3.heap.size + 1, 0, #[], rfl, by omega, new_1 _ _ _, Nat.le_refl _, Nat.zero_le _, rfl, rfl⟩⟩)
              have HONE2 := hid (show ∀ u ∈ ([.string (tx nm), .slice ca cn cc, .slice pa pn pc] : List Value), u.oneCell' = true by simp [Value.oneCell'])
              have K0 := HKP.out _ HB.out
              go_wp2_with fail
              go_region_held3 (fun W => W.cell? ⟨pb, 1, none⟩ = some (.slice (some ⟨G, o, none⟩) N dc) ∧ W.cell? ⟨G, o + j * 3, none⟩ = some (.string (tx nm)) ∧ W.cell? ⟨G, o + j * 3 + 1, none⟩ = some (.slice ca cn cc) ∧ W.cell? ⟨G, o + j * 3 + 2, none⟩ = some (.slice pa pn pc)) (first | exact K6 | exact K5 | exact K0 | exact HKP.out _ HX1.out | exact HKP.out _ HX4.out | exact HKP.out _ HX2.out | exact HKP.out _ HX3.out | exact HKP.out _ (L5.out.alloc L5.out.size (dob nm (.slice ca cn cc) (.slice pa pn pc)))) (first | (refine step_append_srcD _ (by rfl) (.tmp 50) (.tmp 59) 22 (by rfl) w3.heap.size 80 i0 (.agg #[.string (tx []), .slice none 0 0, .slice none 0 0]) 3 64 Tryz.underlying22 HI.out HZ0.out HZ1.out HZ2.out rfl (by decide) v5 (0 + k) ([] ++ (flatD (S.take k))) (by rfl) (by exact hown5) (.slice (some ⟨w3.heap.size + 1, 0, none⟩) 1 1) 1 [.string (tx nm), .slice ca cn cc, .slice pa pn pc] (by rfl) (Or.inr ⟨⟨w3.heap.size + 1, 0, none⟩, 1, rfl, rfl, World.news_of_block N5b⟩) HONE2.out (by unfold maxLen; omega) (by omega) (by exact (L5.out).size) ?_; intro v6 w6 hown6 hgr6; have L6 := hid (grownG (L5.out) (hown5) hgr6 (L5.out).size); have K6 := HKP.out w6 L6.out; have F6 := hid (NxD.mk (w2 := w3) L6.out hown6)) | (refine step_append_srcD _ (by rfl) (.tmp 50) (.tmp 59) 22 (by rfl) w3.heap.size 80 i0 (.agg #[.string (tx []), .slice none 0 0, .slice none 0 0]) 3 64 Tryz.underlying22 HI.out HZ0.out HZ1.out HZ2.out rfl (by decide) v5 (0 + k) ([] ++ (flatD (S.take k))) (by rfl) (by exact hown5) (.slice (some ⟨w3.heap.size, 0, none⟩) 1 1) 1 [.string (tx nm), .slice ca cn cc, .slice pa pn pc] (by rfl) (Or.inr ⟨⟨w3.heap.size, 0, none⟩, 1, rfl, rfl, World.news_of_block N5c⟩) HONE2.out (by unfold maxLen; omega) (by omega) (by exact (L5.out).size) ?_; intro v6 w6 hown6 hgr6; have L6 := hid (grownG (L5.out) (hown5) hgr6 (L5.out).size); have K6 := HKP.out w6 L6.out; have F6 := hid (NxD.mk (w2 := w3) L6.out hown6)) | (refine step_append_srcD _ (by rfl) (.tmp 50) (.tmp 59) 22 (by rfl) w3.heap.size 80 i0 (.agg #[.string (tx []), .slice none 0 0, .slice none 0 0]) 3 64 Tryz.underlying22 HI.out HZ0.out HZ1.out HZ2.out rfl (by decide) v5 (0 + k) ([] ++ (flatD (S.take k))) (by rfl) (by exact hown5.alloc (dob nm (.slice ca cn cc) (.slice pa pn pc))) (.slice (some ⟨w5.heap.size, 0, none⟩) 1 1) 1 [.string (tx nm), .slice ca cn cc, .slice pa pn pc] (by rfl) (Or.inr ⟨⟨w5.heap.size, 0, none⟩, 1, rfl, rfl, World.news_of_block (new_0 w5 (dob nm (.slice ca cn cc) (.slice pa pn pc)))⟩) HONE2.out (by unfold maxLen; omega) (by omega) (by exact (L5.out.alloc L5.out.size (dob nm (.slice ca cn cc) (.slice pa pn pc))).size) ?_; intro v6 w6 hown6 hgr6; have L6 := hid (grownG (L5.out.alloc L5.out.size (dob nm (.slice ca cn cc) (.slice pa pn pc))) (hown5.alloc (dob nm (.slice ca cn cc) (.slice pa pn pc))) hgr6 (L5.out.alloc L5.out.size (dob nm (.slice ca cn cc) (.slice pa pn pc))).size); have K6 := HKP.out w6 L6.out; have F6 := hid (NxD.mk (w2 := w3) L6.out hown6)) | (refine step_append_srcD _ (by rfl) (.tmp 46) (.tmp 49) 22 (by rfl) w3.heap.size 80 i0 (.agg #[.string (tx []), .slice none 0 0, .slice none 0 0]) 3 64 Tryz.underlying22 HI.out HZ0.out HZ1.out HZ2.out rfl (by decide) (.slice (some ⟨w3.heap.size, 0, none⟩) 0 0) 0 [] (by rfl) (by exact HW2.out) (.slice (some ⟨g2, 0, none⟩) k bc) k (flatD (S.take k)) (by rfl) (HSRC.out _ HX2.out) HONE1.out (by unfold maxLen; omega) (by omega) (by exact HX2.out.size) ?_; intro v5 w5 hown5 hgr5; have L5 := hid (grownG HX2.out HW2.out hgr5 HX2.out.size); have K5 := HKP.out w5 L5.out; have N5b : w5.heap[w3.heap.size + 1]? = some (dob nm (.slice ca cn cc) (.slice pa pn pc)) := (hgr5.block _ (by simp) (by simp [Value.ownBlock])).trans (new_1 _ _ _)) | (refine step_append_srcD _ (by rfl) (.tmp 46) (.tmp 49) 22 (by rfl) w3.heap.size 80 i0 (.agg #[.string (tx []), .slice none 0 0, .slice none 0 0]) 3 64 Tryz.underlying22 HI.out HZ0.out HZ1.out HZ2.out rfl (by decide) (.slice (some ⟨w3.heap.size + 1, 0, none⟩) 0 0) 0 [] (by rfl) (by exact HW3.out) (.slice (some ⟨g2, 0, none⟩) k bc) k (flatD (S.take k)) (by rfl) (HSRC.out _ HX3.out) HONE1.out (by unfold maxLen; omega) (by omega) (by exact HX3.out.size) ?_; intro v5 w5 hown5 hgr5; have L5 := hid (grownG HX3.out HW3.out hgr5 HX3.out.size); have K5 := HKP.out w5 L5.out; have N5c : w5.heap[w3.heap.size]? = some (dob nm (.slice ca cn cc) (.slice pa pn pc)) := (hgr5.block _ (by simp; omega) (by simp [Value.ownBlock])).trans (new_old _ _ (new_0 _ _))) | (refine step_append_srcD _ (by rfl) (.tmp 46) (.tmp 49) 22 (by rfl) w3.heap.size 80 i0 (.agg #[.string (tx []), .slice none 0 0, .slice none 0 0]) 3 64 Tryz.underlying22 HI.out HZ0.out HZ1.out HZ2.out rfl (by decide) (.slice (some ⟨w3.heap.size, 0, none⟩) 0 0) 0 [] (by rfl) (by exact HW1.out) (.slice (some ⟨g2, 0, none⟩) k bc) k (flatD (S.take k)) (by rfl) (HSRC.out _ HX1.out) HONE1.out (by unfold maxLen; omega) (by omega) (by exact HX1.out.size) ?_; intro v5 w5 hown5 hgr5; have L5 := hid (grownG HX1.out HW1.out hgr5 HX1.out.size); have K5 := HKP.out w5 L5.out; skip))
              all_goals (try clear K5)
              all_goals (try clear hown5 hgr5)
              all_goals (try clear L5)
              all_goals (clear K0)
              all_goals (try clear K6)
              all_goals (
                obtain ⟨a6, c6, hv6⟩ := own_formJ F6.out.own
                subst hv6
                have HR6 := hid (show Below w3.heap.size w3 w6 ∧ w6.ownsRow w3.heap.size 80 3 (.slice a6 (k + 1) c6) (k + 1) (flatD (S.take k) ++ [.string (tx nm), .slice ca cn cc, .slice pa pn pc]) from ⟨F6.out.low, by have q := F6.out.own; simpa using q⟩)
                clear F6 L6 hown6 hgr6
                (try simp only [Nat.zero_add])
                go_wp2_with fail
                go_meet
                exact ⟨_, _, rfl, HR6⟩)
          case rest =>
            obtain ⟨a6, c6, rfl, HR6⟩ := hcut
            rename World => w4
            have HN7 := hid (fun (v7 : Value) (w7 : World) (n7 : Nat) (T : List Value) (hn : n7 = j + 1) (ho : w7.ownsRow w3.heap.size 80 3 v7 n7 T) (hT : T = flatD (S.take k) ++ [.string (tx nm), .slice ca cn cc, .slice pa pn pc] ++ flatD (S.drop k)) (hg : w4.grownBy w7 (Value.slice a6 (k + 1) c6).ownBlock) => (show DnA W0 vs (j + 1) v7 (S.take k ++ (d, .slice ca cn cc, .slice pa pn pc) :: S.drop k) w7 from by
              subst hn
              subst hT
              have hb4 : Below w3.heap.size w3 w7 := grownG HR6.out.1 HR6.out.2 hg HR6.out.1.size
              refine HX.out.next HQ.out hk HU.out HLAST.out (HX.out.low.trans (hb4.mono HX.out.low.size)) ?_
              rw [HNM.out] at ho
              exact own_baseJ ho HX.out.low.size))
            have hsz4 := HR6.out.1.size
            rcases own_rdJ HX.out.row with ⟨hb0, hj0, hc0, hS0⟩ | ⟨g2, hb0, hb1, hb2, hb3, hb4⟩
            · subst hb0; subst hj0; subst hc0
              have hk0 : k = 0 := by omega
              subst hk0
              clear hS0
              have hS : S = [] := List.length_eq_zero_iff.1 HSL.out
              have HF7 := hid (show w4.ownsRow w3.heap.size 80 3 (.slice a6 1 c6) 1 [.string (tx nm), .slice ca cn cc, .slice pa pn pc] from by have q := HR6.out.2; simpa [flatD] using q)
              have HFN := hid (HN7.out (.slice a6 1 c6) w4 1 _ rfl HF7.out (by rw [hS]; simp [flatD]) (growRefl _ _))
              clear hS
              go_wp2_with (first | (at_builtin; refine wpList_append_own_none rfl _ _ 22 rfl w3.heap.size 80 i0 3 Tryz.underlying22 HI.out (.slice a6 1 c6) 1 [.string (tx nm), .slice ca cn cc, .slice pa pn pc] rfl HF7.out rfl ?_))
              go_roundw
              case rel => exact ⟨1, a6, c6, _, by omega, by go_num, rfl, HFN⟩
              case measure => simp [intOf]; omega
            · subst hb0
              have HNL := hid (show (flatD (S.drop k)).length = (j - k) * 3 from by rw [flatD_len, List.length_drop, HSL.out])
              rcases Nat.lt_or_eq_of_le (show k ≤ bc by omega) with hkb | hkb
              · have HSD := hid (fun (t : Nat) (u : Value) (hu : (flatD (S.drop k))[t]? = some u) => (by
                  rw [addJ, HR6.out.1.cell (by exact hb3)]
                  refine hb4 _ u ?_
                  have e : flatD S = flatD (S.take k) ++ flatD (S.drop k) := by rw [← flatD_app, List.take_append_drop]
                  have hl1 : (flatD (S.take k)).length = k * 3 := by rw [flatD_len, List.length_take, HSL.out, Nat.min_eq_left hk]
                  rw [e, List.getElem?_append_right (by omega), hl1, Nat.add_sub_cancel_left]
                  exact hu : w4.cell? ((⟨g2, k * 3, none⟩ : Addr).add t) = some u))
                have hkc : (k : Int) < (bc : Int) := by omega
                have hjc : (j : Int) ≤ (bc : Int) := by omega
                clear hb4
                go_wp2_with (first | (at_builtin; refine wpList_append_srcJ _ rfl (.tmp 61) (.tmp 64) 22 rfl w3.heap.size 80 i0 (.agg #[.string (tx []), .slice none 0 0, .slice none 0 0]) 3 64 Tryz.underlying22 HI.out HZ0.out HZ1.out HZ2.out rfl (by decide) (.slice a6 (k + 1) c6) (k + 1) (flatD (S.take k) ++ [.string (tx nm), .slice ca cn cc, .slice pa pn pc]) rfl HR6.out.2 _ (j - k) (flatD (S.drop k)) rfl (.inr ⟨⟨g2, k * 3, none⟩, _, rfl, HNL.out, HSD.out⟩) HONE3.out (by unfold maxLen; omega) (by omega) (by omega) ?_))
                intro v7 w7 hown7 hg7
                obtain ⟨a7, c7, rfl⟩ := own_formJ hown7
                have HFN := hid (HN7.out _ w7 (k + 1 + (j - k)) _ (by omega) hown7 (by simp) hg7)
                rw [show k + 1 + (j - k) = j + 1 by omega] at HFN ⊢
                clear hown7 hg7
                go_wp2
                go_roundw
                case rel => exact ⟨j + 1, a7, c7, _, by omega, by go_num, rfl, HFN⟩
                case measure => simp [intOf]; omega
              · have hjk : j = k := by omega
                subst hkb
                subst hjk
                have HS0 := hid (show S.drop j = [] from List.drop_eq_nil_of_le (by rw [HSL.out]; exact Nat.le_refl _))
                clear hb4
                go_wp2_with (first | (at_builtin; refine wpList_append_srcJ _ rfl (.tmp 61) (.tmp 64) 22 rfl w3.heap.size 80 i0 (.agg #[.string (tx []), .slice none 0 0, .slice none 0 0]) 3 64 Tryz.underlying22 HI.out HZ0.out HZ1.out HZ2.out rfl (by decide) (.slice a6 (j + 1) c6) (j + 1) (flatD (S.take j) ++ [.string (tx nm), .slice ca cn cc, .slice pa pn pc]) rfl HR6.out.2 _ 0 [] rfl (.inr ⟨_, _, rfl, rfl, fun t u hu => by simp at hu⟩) (by simp) (by unfold maxLen; omega) (by omega) (by omega) ?_))
                intro v7 w7 hown7 hg7
                obtain ⟨a7, c7, rfl⟩ := own_formJ hown7
                have HFN := hid (HN7.out _ w7 _ _ rfl hown7 (by rw [HS0.out]; simp [flatD]) hg7)
                clear hown7 hg7
                go_wp2
                go_roundw
                case rel => exact ⟨j + 1, a7, c7, _, by omega, by go_num, rfl, HFN⟩
                case measure => simp [intOf]; omega
      · have hI : ¬ (j : Int) < (N : Int) := by omega
        have hjN : j = N := by omega
        subst hjN
        go_wp2_with fail
        go_meet
        exact ⟨_, S, rfl, HA⟩
  case rest =>
    obtain ⟨vo, S, rfl, HA⟩ := hcut
    obtain ⟨bo, bc, hbo⟩ := own_formJ HA.out.row
    subst hbo
    have hpw := HPB.out wc HA.out.low
    have p1 : wc.cell? ⟨pb, 1, none⟩ = some (.slice dv N dc) := by rw [cell_at hpw]; rfl
    have pf : wc.frozen? ⟨pb, 1, none⟩ = false := free_of hpw
    obtain ⟨W1, hW1⟩ : ∃ W1, W1 = wc.setCell ⟨pb, 1, none⟩ (.slice bo N bc) := ⟨_, rfl⟩
    obtain ⟨HS1, hs1⟩ := dn_set HA.out (HPB.out W0 (Below.refl _ _)) HD.out HNN.out HO.out hB0
    have HS := hid HS1
    rw [← hW1] at hs1 HS
    have HSP := hid (show S.Perm vs ∧ S.Pairwise (fun a b => ¬ b.1.name < a.1.name) ∧ w.grownBy W1 (some pb) ∧ W1.heap[R]? = some (tobJ (.int .i64 0) (.slice none 0 0) (.slice none 0 0)) from by
      have h1 := HA.out.perm
      rw [HNN.out, List.take_of_length_le (Nat.le_refl _)] at h1
      refine ⟨h1, HA.out.up, ⟨?_, ?_, ?_, ?_, fun k hk hn => ?_⟩, ?_⟩
      · rw [hW1]; exact HA.out.low.os.trans HW0.out.os
      · rw [hW1]; exact HA.out.low.tape.trans HW0.out.tape
      · rw [hW1]; exact HA.out.low.output.trans HW0.out.output
      · have := HA.out.low.size; have := HW0.out.size; omega
      · rw [hW1, Below.heap_setCell _ _ _ _ (fun e => hn (by rw [e])), HA.out.low.block k (by have := HW0.out.size; omega), HW0.out.block k hk]
      · rw [hW1, Below.heap_setCell _ _ _ _ (fun e => hpR e.symm), HA.out.low.block R hRl, HRES.out])
    obtain ⟨L, hL⟩ : ∃ L, L = lksN (S.map (·.1.name)) ns := ⟨_, rfl⟩
    have HL := hid hL
    have HLL := hid (show L.length = M from by rw [hL, HMM.out]; unfold lksN; rw [List.length_map])
    have HNM := hid (fun (q : NmZ) (hq : q ∈ ns) => (by
      have hp := HSP.out.1.map (fun z : To.Dv × Value × Value => z.1.name)
      exact ⟨hp.mem_iff.2 (HMEM.out q hq).1, hp.mem_iff.2 (HMEM.out q hq).2⟩ : q.1.1 ∈ S.map (·.1.name) ∧ q.2.1 ∈ S.map (·.1.name)))
    have B0 := hid (show DnB W1 L 0 (.slice none 0 0) [] W1 from ⟨Below.refl _ _, List.Perm.nil, List.Pairwise.nil, World.ownsRow_nil _ _ _ _⟩)
    have hB1 : B ≤ W1.heap.size := by have := HA.out.low.size; omega
    have HS256 := hid (show S.length ≤ 100000 from by rw [HSP.out.1.length_eq, ← HNN.out]; omega)
    obtain ⟨i1, hi, hz0, hz1, hz2⟩ := info_parts Tryz.infoLinkJ
    have HI1 := hid hi
    have HZ01 := hid hz0
    have HZ11 := hid hz1
    have HZ21 := hid hz2
    clear hi hz0 hz1 hz2 hpw HS1 HA hL HDF HD HO HPB HMEM A0 HI HZ0 HZ1 HZ2 HWK
    go_upto_block 4 with fail
    rw [← hW1]
    clear hW1 p1 pf
    go_cut [7] (fun x7 wx => ∃ (lo : Value) (T : List To.Lk), x7 = lo ∧ Hid (DnB W1 L M lo T wx))
    case first => as_aux_lemma =>
      go_wp2_with fail
      go_loopw [7, 8, 9, 10, 11] (fun vo vi _ _ _ wr => ∃ (j : Nat) (lo : Option Addr) (lc : Nat) (T : List To.Lk), j ≤ M ∧ vi = .int .i64 j ∧ vo = .slice lo j lc ∧ Hid (DnB W1 L j (.slice lo j lc) T wr)) (fun _ vi _ _ _ _ => M - (intOf vi).toNat)
      case atStart => exact ⟨0, none, 0, [], Nat.zero_le _, rfl, rfl, B0⟩
      case round =>
        obtain ⟨j, lo, lc, T, hj, rfl, rfl, HT⟩ := hrel
        rename World => w1
        have hpw := (HS.out.on HT.out.low).pb_
        have p3 : w1.cell? ⟨pb, 3, none⟩ = some (.slice nv M nc) := by rw [cell_at hpw]; rfl
        clear hpw
        by_cases hlt : j < M
        · have hI : (j : Int) < (M : Int) := by omega
          have j0 : (0 : Int) ≤ (j : Int) := by omega
          obtain ⟨⟨⟨qa, qp⟩, qb, qr⟩, hq⟩ : ∃ q, ns[j]? = some q := ⟨_, List.getElem?_eq_getElem (by have := HMM.out; omega)⟩
          obtain ⟨m1, m2⟩ := HNM.out _ (List.mem_of_getElem? hq)
          simp only at m1 m2
          obtain ⟨ia, hia⟩ : ∃ n, n = (S.map (·.1.name)).idxOf qa := ⟨_, rfl⟩
          obtain ⟨ib, hib⟩ : ∃ n, n = (S.map (·.1.name)).idxOf qb := ⟨_, rfl⟩
          have HLJ := hid (show L[j]? = some (jndL (ia, qp) (ib, qr)) from by
            rw [HL.out]; unfold lksN; rw [List.getElem?_map, hq, hia, hib]; rfl)
          obtain ⟨G3, rfl, hG3⟩ : ∃ G3, nv = some ⟨G3, 0, none⟩ ∧ ∀ (W : World), Below W1.heap.size W1 W → W.cell? ⟨pb, 3, none⟩ = some (.slice nv M nc) ∧ W.cell? ⟨G3, j * 4, none⟩ = some (.string (tx qa)) ∧ W.cell? ⟨G3, j * 4 + 1, none⟩ = some (.string (tx qp)) ∧ W.cell? ⟨G3, j * 4 + 2, none⟩ = some (.string (tx qb)) ∧ W.cell? ⟨G3, j * 4 + 3, none⟩ = some (.string (tx qr)) := by
            rcases own_rdJ HS.out.nms with ⟨_, h0, _, _⟩ | ⟨g, e, _, _, hgl, hc⟩
            · omega
            · refine ⟨g, e, fun W hb => ?_⟩
              obtain ⟨f0, f1, f2, f3⟩ := flatN_at hq
              exact ⟨by rw [cell_at (HS.out.on hb).pb_]; rfl, (hb.cell (by exact hgl)).trans (hc _ _ f0), (hb.cell (by exact hgl)).trans (hc _ _ f1), (hb.cell (by exact hgl)).trans (hc _ _ f2), (hb.cell (by exact hgl)).trans (hc _ _ f3)⟩
          have HG3 := hid hG3
          have HKA := hid (fun (W : World) (hb : Below W1.heap.size W1 W) => (by
            have h := Rknown_any (s := qa) (HS.out.on hb).pb_ (HS.out.on hb).dvs.lies HS256.out
            rw [plZ_idx m1, ← hia] at h
            exact h : Calls Tryz.prog 64 #[.pointer (some ⟨pb, 0, none⟩), .string (tx qa)] W fun en w' => en = .returned (.int .i64 (ia : Int)) ∧ w' = W))
          have HKB := hid (fun (W : World) (hb : Below W1.heap.size W1 W) => (by
            have h := Rknown_any (s := qb) (HS.out.on hb).pb_ (HS.out.on hb).dvs.lies HS256.out
            rw [plZ_idx m2, ← hib] at h
            exact h : Calls Tryz.prog 64 #[.pointer (some ⟨pb, 0, none⟩), .string (tx qb)] W fun en w' => en = .returned (.int .i64 (ib : Int)) ∧ w' = W))
          have HBD := hid (show Below W1.heap.size W1 w1.drew from HT.out.low.drew)
          have HBE := hid (show Below W1.heap.size W1 (w1.alloc (.cells #[.int .i64 0, .string (tx []), .int .i64 0, .string (tx [])] 83)).drew from (HT.out.low.alloc HT.out.low.size _).drew)
          have K0 := HG3.out _ HBD.out
          have K1 := HG3.out _ HBE.out
          have HBF := hid (show Below W1.heap.size W1 (w1.alloc (.cells #[.int .i64 ia, .string (tx qp), .int .i64 ib, .string (tx qr)] 83)).drew from (HT.out.low.alloc HT.out.low.size _).drew)
          have K2 := HG3.out _ HBF.out
          clear hG3 hq m1 m2 hia hib
          go_upto_region 15 with fail
          go_cut [9] (fun x9 wx => ∃ xb : Nat, x9 = .pointer (some ⟨xb, 0, none⟩) ∧ Hid (Below w1.heap.size w1 wx ∧ w1.heap.size ≤ xb ∧ wx.heap[xb]? = some (.cells #[.int .i64 ia, .string (tx qp), .int .i64 ib, .string (tx qr)] 83 (0, 0))))
          case first => as_aux_lemma =>
            go_wp2_with fail
            go_region_held3 (fun W => W.cell? ⟨pb, 3, none⟩ = some (.slice (some ⟨G3, 0, none⟩) M nc) ∧ W.cell? ⟨G3, j * 4, none⟩ = some (.string (tx qa)) ∧ W.cell? ⟨G3, j * 4 + 1, none⟩ = some (.string (tx qp)) ∧ W.cell? ⟨G3, j * 4 + 2, none⟩ = some (.string (tx qb)) ∧ W.cell? ⟨G3, j * 4 + 3, none⟩ = some (.string (tx qr))) (first | exact K0 | exact K1 | exact K2 | (go_keep; done)) (first | (go_at_call_of 64 (Value.string (tx qa)); refine (HKA.out _ (by first | exact HBD.out | exact HBE.out)).mono ?_; rintro en w6 ⟨rfl, rfl⟩) | (go_at_call_of 64 (Value.string (tx qb)); refine (HKB.out _ (by first | exact HBD.out | exact HBE.out)).mono ?_; rintro en w7 ⟨rfl, rfl⟩))
            all_goals (
              go_wp2_with fail
              go_meet
              exact ⟨_, rfl, hid ⟨((Below.refl _ _).alloc (Nat.le_refl _) _).drew, Nat.le_refl _, new_0 w1 _⟩⟩)
          case rest =>
            obtain ⟨xb, rfl, hx⟩ := hcut
            rename World => w2
            obtain ⟨hb2, hxb, hx2⟩ := hx.out
            have HB2 := hid hb2
            have HX2 := hid hx2
            have y0 : w2.cell? ⟨xb, 0, none⟩ = some (.int .i64 ia) := by rw [cell_at hx2]; rfl
            have y1 : w2.cell? ⟨xb, 1, none⟩ = some (.string (tx qp)) := by rw [cell_at hx2]; rfl
            have y2 : w2.cell? ⟨xb, 2, none⟩ = some (.int .i64 ib) := by rw [cell_at hx2]; rfl
            have y3 : w2.cell? ⟨xb, 3, none⟩ = some (.string (tx qr)) := by rw [cell_at hx2]; rfl
            have yf0 : w2.frozen? ⟨xb, 0, none⟩ = false := free_of hx2
            have yf1 : w2.frozen? ⟨xb, 1, none⟩ = false := free_of hx2
            have yf2 : w2.frozen? ⟨xb, 2, none⟩ = false := free_of hx2
            have yf3 : w2.frozen? ⟨xb, 3, none⟩ = false := free_of hx2
            clear hb2 hx2 K0 K1 K2 p3
            obtain ⟨lj, hlj⟩ : ∃ l, l = jndL (ia, qp) (ib, qr) := ⟨_, rfl⟩
            have HJL := hid (jndL_lt (ia, qp) (ib, qr))
            rw [← hlj] at HJL HLJ
            obtain ⟨b1, hb1⟩ : ∃ x, decide (ib < ia) = x := ⟨_, rfl⟩
            obtain ⟨b2, hb2⟩ : ∃ x, decide (ia = ib) = x := ⟨_, rfl⟩
            obtain ⟨b3, hb3⟩ : ∃ x, Op.bytesLess qr qp = x := ⟨_, rfl⟩
            have c1 : decide ((ib : Int) < (ia : Int)) = b1 := by rw [← hb1, decide_eq_decide]; omega
            have c2 : ((ia : Int) == (ib : Int)) = b2 := by rw [← hb2]; by_cases e : ia = ib <;> simp [e]; omega
            have c3 : (ia == ib) = b2 := by rw [← hb2]; by_cases e : ia = ib <;> simp [e]
            have HLT := hid (show endLt (ib, qr) (ia, qp) ↔ (b1 = true ∨ (b2 = true ∧ b3 = true)) from by
              rw [endLt_iff, ← hb1, ← hb2, ← hb3, bytesLess_eq, decide_eq_true_iff, decide_eq_true_iff, decide_eq_true_iff]
              constructor
              · rintro (h | ⟨h, k⟩)
                · exact .inl h
                · exact .inr ⟨h.symm, k⟩
              · rintro (h | ⟨h, k⟩)
                · exact .inl h
                · exact .inr ⟨h.symm, k⟩)
            have HLC := hid (show (b1 || (b2 && b3)) = true ∧ lkL lj = [.int .i64 ib, .string (tx qr), .int .i64 ia, .string (tx qp)] ∨ (b1 || (b2 && b3)) = false ∧ lkL lj = [.int .i64 ia, .string (tx qp), .int .i64 ib, .string (tx qr)] from by
              have hb : (b1 || (b2 && b3)) = true ↔ (b1 = true ∨ (b2 = true ∧ b3 = true)) := by simp
              rcases HJL.out with ⟨h1, e1⟩ | ⟨h1, e1⟩
              · exact .inl ⟨hb.2 (HLT.out.1 h1), by rw [e1]; rfl⟩
              · exact .inr ⟨by rw [Bool.eq_false_iff]; exact fun q => h1 (HLT.out.2 (hb.1 q)), by rw [e1]; rfl⟩)
            obtain ⟨bb, hbb⟩ : ∃ x, x = (b1 || (b2 && b3)) := ⟨_, rfl⟩
            rw [← hbb] at HLC
            have HBB := hid hbb
            clear hb2 hlj HLT HJL hbb
            go_upto_region 16 with fail
            go_cut [135] (fun x135 wx => x135 = .bool bb ∧ wx = w2)
            case first =>
              cases b1 <;> cases b2 <;> cases b3
              all_goals (
                go_wp2_with fail
                go_meet
                exact ⟨by rw [HBB.out]; rfl, rfl⟩)
            case rest =>
              obtain ⟨rfl, rfl⟩ := hcut
              clear HBB c1 c2 c3 hb1 hb3
              go_upto_if 135 with fail
              go_cut [] (fun wx => Hid (Below w1.heap.size w1 wx ∧ wx.heap[xb]? = some (.cells (lkL lj).toArray 83 (0, 0))))
              case first =>
                cases bb with
                | true =>
                  have e := (HLC.out.resolve_right (fun q => by cases q.1)).2
                  have HF := hid (show Below w1.heap.size w1 ((((wc.setCell ⟨xb, 0, none⟩ (.int .i64 ib)).setCell ⟨xb, 1, none⟩ (.string (tx qr))).setCell ⟨xb, 2, none⟩ (.int .i64 ia)).setCell ⟨xb, 3, none⟩ (.string (tx qp))) ∧ ((((wc.setCell ⟨xb, 0, none⟩ (.int .i64 ib)).setCell ⟨xb, 1, none⟩ (.string (tx qr))).setCell ⟨xb, 2, none⟩ (.int .i64 ia)).setCell ⟨xb, 3, none⟩ (.string (tx qp))).heap[xb]? = some (.cells (lkL lj).toArray 83 (0, 0)) from by
                    refine ⟨(((HB2.out.setCell (by exact hxb) _).setCell (by exact hxb) _).setCell (by exact hxb) _).setCell (by exact hxb) _, ?_⟩
                    rw [e, block_set (o := 3) _ (block_set (o := 2) _ (block_set (o := 1) _ (block_set (o := 0) _ HX2.out)))]; rfl)
                  clear e
                  go_wp2_with fail
                  go_meet
                  exact HF
                | false =>
                  have e := (HLC.out.resolve_left (fun q => by cases q.1)).2
                  have HF := hid (show Below w1.heap.size w1 wc ∧ wc.heap[xb]? = some (.cells (lkL lj).toArray 83 (0, 0)) from ⟨HB2.out, by rw [e]; exact HX2.out⟩)
                  clear e
                  go_wp2_with fail
                  go_meet
                  exact HF
              case rest =>
                have HX3 := hcut
                clear hcut HLC HB2 HX2 y0 y1 y2 y3 yf0 yf1 yf2 yf3
                rename World => w3
                obtain ⟨la, hla⟩ : ∃ x : Nat, x = lj.a := ⟨_, rfl⟩
                obtain ⟨lp, hlp⟩ : ∃ x, x = lj.p := ⟨_, rfl⟩
                obtain ⟨lb, hlb⟩ : ∃ x : Nat, x = lj.b := ⟨_, rfl⟩
                obtain ⟨lq, hlq⟩ : ∃ x, x = lj.q := ⟨_, rfl⟩
                have HLL2 := hid (show lkL lj = [.int .i64 la, .string (tx lp), .int .i64 lb, .string (tx lq)] from by rw [hla, hlp, hlb, hlq]; rfl)
                have HLW := hid (show lowE lj = (la, lp) from by rw [hla, hlp]; rfl)
                have HKX := hid (fun (W : World) (hW : Below w3.heap.size w3 W) => (by
                  have hx := HX3.out.2
                  rw [HLL2.out] at hx
                  have hx2 := (hW.block xb (lt_of_block hx)).trans hx
                  exact ⟨by rw [cell_at hx2]; rfl, by rw [cell_at hx2]; rfl, by rw [cell_at hx2]; rfl, by rw [cell_at hx2]; rfl⟩ : W.cell? ⟨xb, 0, none⟩ = some (.int .i64 la) ∧ W.cell? ⟨xb, 1, none⟩ = some (.string (tx lp)) ∧ W.cell? ⟨xb, 2, none⟩ = some (.int .i64 lb) ∧ W.cell? ⟨xb, 3, none⟩ = some (.string (tx lq))))
                have HLOW := hid (HT.out.low.trans (HX3.out.1.mono HT.out.low.size))
                have HTR := hid (own_sameJ HT.out.row fun k q => HX3.out.1.block k (HT.out.row.lt k q).2 : w3.ownsRow W1.heap.size 83 4 (.slice lo j lc) j (flatL T))
                have HTL := hid (HT.out.len (by rw [HLL.out]; exact hj))
                clear hla hlp hlb hlq
                go_upto_block 6 with fail
                go_cut [10] (fun x10 wx => ∃ k : Nat, k ≤ j ∧ x10 = .int .i64 k ∧ Hid (Below w3.heap.size w3 wx) ∧ Hid (∀ (i : Nat) (y : To.Lk), k ≤ i → T[i]? = some y → endLt (lowE lj) (lowE y)) ∧ Hid (∀ (i : Nat) (y : To.Lk), i + 1 = k → T[i]? = some y → ¬ endLt (lowE lj) (lowE y)))
                case first => as_aux_lemma =>
                  go_wp2_with fail
                  go_loopw [10] (fun vk wr => ∃ k : Nat, k ≤ j ∧ vk = .int .i64 k ∧ Hid (Below w3.heap.size w3 wr) ∧ Hid (∀ (i : Nat) (y : To.Lk), k ≤ i → T[i]? = some y → endLt (lowE lj) (lowE y))) (fun vk _ => (intOf vk).toNat)
                  case atStart => exact ⟨j, Nat.le_refl _, rfl, hid (Below.refl _ _), hid fun i y hi hy => by have h1 := HTL.out; have h2 := (List.getElem?_eq_some_iff.1 hy).1; omega⟩
                  case round =>
                    obtain ⟨k, hk, rfl, HB, HU⟩ := hrel
                    rename World => w4
                    obtain ⟨x0, x1, x2', x3⟩ := HKX.out w4 HB.out
                    cases k with
                    | zero =>
                      have HBQ := hid (fun (n : Nat) => below_drewN (n := n) HB.out)
                      have HLAST := hid (show ∀ (i : Nat) (y : To.Lk), i + 1 = 0 → T[i]? = some y → ¬ endLt (lowE lj) (lowE y) from fun i y e => by omega)
                      go_wp2_with fail
                      go_quiet (fail)
                      go_wp2_with fail
                      go_meet
                      exact ⟨0, Nat.zero_le _, rfl, hid (HBQ.out _), HU, HLAST⟩
                    | succ t =>
                      obtain ⟨y, hy⟩ : ∃ y, T[t]? = some y := ⟨_, List.getElem?_eq_getElem (by have := HTL.out; omega)⟩
                      have hrow := HTR.out
                      obtain ⟨g2, rfl, hcl⟩ : ∃ g2, lo = some ⟨g2, 0, none⟩ ∧ ∀ (W : World), Below w3.heap.size w3 W → W.cell? ⟨g2, t * 4, none⟩ = some (.int .i64 y.a) ∧ W.cell? ⟨g2, t * 4 + 1, none⟩ = some (.string (tx y.p)) ∧ W.cell? ⟨g2, t * 4 + 2, none⟩ = some (.int .i64 y.b) ∧ W.cell? ⟨g2, t * 4 + 3, none⟩ = some (.string (tx y.q)) := by
                        obtain ⟨g, hg⟩ : ∃ g, lo = some ⟨g, 0, none⟩ := by
                          rcases own_rdJ hrow with ⟨_, h0, _, _⟩ | ⟨g, e, _⟩
                          · omega
                          · exact ⟨g, e⟩
                        refine ⟨g, hg, fun W hW => ?_⟩
                        rw [hg] at hrow
                        have hrW : W.ownsRow W1.heap.size 83 4 (.slice (some ⟨g, 0, none⟩) j lc) j (flatL T) := own_sameJ hrow fun k q => hW.block k (hrow.lt k q).2
                        exact (own_atL hrW hy HTL.out).1
                      obtain ⟨ya, hya⟩ : ∃ x : Nat, x = y.a := ⟨_, rfl⟩
                      obtain ⟨yp, hyp⟩ : ∃ x, x = y.p := ⟨_, rfl⟩
                      obtain ⟨yb, hyb⟩ : ∃ x : Nat, x = y.b := ⟨_, rfl⟩
                      obtain ⟨yq, hyq⟩ : ∃ x, x = y.q := ⟨_, rfl⟩
                      obtain ⟨bx, hbx⟩ : ∃ x, befB ((la : Int), lp, (lb : Int), lq) ((ya : Int), yp, (yb : Int), yq) = x := ⟨_, rfl⟩
                      have HBX := hid (show bx = true ↔ endLt (lowE lj) (lowE y) from by
                        rw [← hbx]
                        exact befB_end _ _ lj y (by have := congrArg Prod.fst HLW.out; simp only [lowE] at this; rw [this]) (by have := congrArg Prod.snd HLW.out; simp only [lowE] at this; rw [this]) (by rw [hya]) (by rw [hyp]))
                      rw [← hya, ← hyp, ← hyb, ← hyq] at hcl
                      have HBE := hid (fun (W : World) => (by have := Rbefore_any (w := W) (x := ((la : Int), lp, (lb : Int), lq)) (y := ((ya : Int), yp, (yb : Int), yq)); rw [hbx] at this; exact this : Calls Tryz.prog 67 #[lkv la lp lb lq, lkv ya yp yb yq] W fun e w' => e = .returned (.bool bx) ∧ Below W.heap.size W w'))
                      have HKY := hid (fun (W : World) (hW : Below w4.heap.size w4 W) => (by
                        have hb := HB.out.trans (hW.mono HB.out.size)
                        obtain ⟨a0, a1, a2, a3⟩ := HKX.out W hb
                        obtain ⟨b0, b1, b2, b3⟩ := hcl W hb
                        exact ⟨a0, a1, a2, a3, b0, b1, b2, b3⟩ : W.cell? ⟨xb, 0, none⟩ = some (.int .i64 la) ∧ W.cell? ⟨xb, 1, none⟩ = some (.string (tx lp)) ∧ W.cell? ⟨xb, 2, none⟩ = some (.int .i64 lb) ∧ W.cell? ⟨xb, 3, none⟩ = some (.string (tx lq)) ∧ W.cell? ⟨g2, t * 4, none⟩ = some (.int .i64 ya) ∧ W.cell? ⟨g2, t * 4 + 1, none⟩ = some (.string (tx yp)) ∧ W.cell? ⟨g2, t * 4 + 2, none⟩ = some (.int .i64 yb) ∧ W.cell? ⟨g2, t * 4 + 3, none⟩ = some (.string (tx yq))))
                      have HY := hid hy
                      have tI : (t : Int) < (j : Int) := by omega
                      have t0 : (0 : Int) ≤ (t : Int) := by omega
                      have HBW := hid (fun (W : World) (hW : Below w4.heap.size w4 W) => HB.out.trans (hW.mono HB.out.size))
                      have hw1 : IntKind.i64.wrap (((t + 1 : Nat) : Int) - 1) = (t : Int) := by rw [IntKind.wrap_i64]; omega
                      have hw2 : IntKind.i64.wrap ((t : Int) + 1 - 1) = (t : Int) := by rw [IntKind.wrap_i64]; omega
                      have hw3 : IntKind.i64.wrap (t : Int) = (t : Int) := by rw [IntKind.wrap_i64]; omega
                      have tJ : t < j := by omega
                      have tJ1 : (t : Int) + 1 ≤ (j : Int) := by omega
                      have tJ2 : t + 1 ≤ j := by omega
                      have tJ3 : (t : Int) + 1 < (j : Int) + 1 := by omega
                      have K0 := HKY.out w4.drew (Below.refl _ _).drew
                      clear hcl hy hya hyp hyb hyq hbx hrow x0 x1 x2' x3
                      cases bx with
                      | true =>
                        have HU2 := hid (show ∀ (i : Nat) (z : To.Lk), t ≤ i → T[i]? = some z → endLt (lowE lj) (lowE z) from fun i z hi hz => by
                          by_cases e : i = t
                          · rw [e, HY.out] at hz
                            injection hz with hz
                            rw [← hz]; exact HBX.out.1 rfl
                          · exact HU.out i z (by omega) hz)
                        go_wp2_with fail
                        go_region_held3 (fun W => W.cell? ⟨xb, 0, none⟩ = some (.int .i64 la) ∧ W.cell? ⟨xb, 1, none⟩ = some (.string (tx lp)) ∧ W.cell? ⟨xb, 2, none⟩ = some (.int .i64 lb) ∧ W.cell? ⟨xb, 3, none⟩ = some (.string (tx lq)) ∧ W.cell? ⟨g2, t * 4, none⟩ = some (.int .i64 ya) ∧ W.cell? ⟨g2, t * 4 + 1, none⟩ = some (.string (tx yp)) ∧ W.cell? ⟨g2, t * 4 + 2, none⟩ = some (.int .i64 yb) ∧ W.cell? ⟨g2, t * 4 + 3, none⟩ = some (.string (tx yq))) (first | exact K6 | exact K0) (first | (go_at_call 67; refine (HBE.out _).mono ?_; rintro en w6 ⟨rfl, hb6⟩; have HB6 := hid (show Below w4.heap.size w4 w6 from ⟨hb6.os, hb6.tape, hb6.output, hb6.size, hb6.block⟩); have K6 := HKY.out w6 HB6.out))
                        clear K0 K6
                        go_wp2
                        go_roundw
                        case rel => exact ⟨t, by omega, by go_num, hid (HBW.out _ HB6.out), HU2⟩
                        case measure => simp [intOf]
                      | false =>
                        have HLAST := hid (show ∀ (i : Nat) (z : To.Lk), i + 1 = t + 1 → T[i]? = some z → ¬ endLt (lowE lj) (lowE z) from fun i z e hz => by
                          have e : i = t := by omega
                          rw [e, HY.out] at hz
                          injection hz with hz
                          rw [← hz]; exact fun q => by have := HBX.out.2 q; cases this)
                        go_wp2_with fail
                        go_region_held3 (fun W => W.cell? ⟨xb, 0, none⟩ = some (.int .i64 la) ∧ W.cell? ⟨xb, 1, none⟩ = some (.string (tx lp)) ∧ W.cell? ⟨xb, 2, none⟩ = some (.int .i64 lb) ∧ W.cell? ⟨xb, 3, none⟩ = some (.string (tx lq)) ∧ W.cell? ⟨g2, t * 4, none⟩ = some (.int .i64 ya) ∧ W.cell? ⟨g2, t * 4 + 1, none⟩ = some (.string (tx yp)) ∧ W.cell? ⟨g2, t * 4 + 2, none⟩ = some (.int .i64 yb) ∧ W.cell? ⟨g2, t * 4 + 3, none⟩ = some (.string (tx yq))) (first | exact K6 | exact K0) (first | (go_at_call 67; refine (HBE.out _).mono ?_; rintro en w6 ⟨rfl, hb6⟩; have HB6 := hid (show Below w4.heap.size w4 w6 from ⟨hb6.os, hb6.tape, hb6.output, hb6.size, hb6.block⟩); have K6 := HKY.out w6 HB6.out))
                        clear K0 K6
                        go_wp2_with fail
                        go_meet
                        exact ⟨t + 1, by omega, by go_num, hid (HBW.out _ HB6.out), HU, HLAST⟩
                case rest =>
                  obtain ⟨k, hk, rfl, HB5, HU, HLAST⟩ := hcut
                  rename World => wa
                  have HLOW5 := hid (HLOW.out.trans (HB5.out.mono (HLOW.out.size)))
                  have HTR5 := hid (own_sameJ HTR.out fun k q => HB5.out.block k (HTR.out.lt k q).2 : wa.ownsRow W1.heap.size 83 4 (.slice lo j lc) j (flatL T))
                  have HKP := hid (fun (W : World) (hW : Below wa.heap.size wa W) => HKX.out W (HB5.out.trans (hW.mono HB5.out.size)))
                  have HONE1 := hid (flatL_oneJ (T.take k))
                  have HONE3 := hid (flatL_oneJ (T.drop k))
                  have hkI : (k : Int) ≤ (j : Int) := by omega
                  have hk00 : (0 : Int) ≤ (k : Int) := by omega
                  go_upto_region 21 with fail
                  go_cut [11] (fun x11 wx => ∃ a6 c6, x11 = .slice a6 (k + 1) c6 ∧ Hid (Below wa.heap.size wa wx ∧ wx.ownsRow wa.heap.size 83 4 (.slice a6 (k + 1) c6) (k + 1) (flatL (T.take k) ++ [.int .i64 la, .string (tx lp), .int .i64 lb, .string (tx lq)])))
                  case first => as_aux_lemma =>
                    rcases own_rdJ HTR5.out with ⟨hb0, hj0, hc0, hS0⟩ | ⟨g2, hb0, hb1, hb2, hb3, hb4⟩
                    · subst hb0; subst hj0; subst hc0
                      have hk0 : k = 0 := by omega
                      subst hk0
                      clear hS0
                      have HB := hid (show Below wa.heap.size wa wa.drew from (Below.refl _ _).drew)
                      have HX1 := hid (HB.out.alloc (Nat.le_refl _) (.cells #[] 83))
                      have HX2 := hid (HX1.out.alloc HX1.out.size (.cells #[.int .i64 la, .string (tx lp), .int .i64 lb, .string (tx lq)] 83))
                      have HX4 := hid (HB.out.alloc (Nat.le_refl _) (.cells #[.int .i64 la, .string (tx lp), .int .i64 lb, .string (tx lq)] 83))
                      have HX3 := hid (HX4.out.alloc HX4.out.size (.cells #[] 83))
                      have HW1 := hid (show (wa.drew.alloc (.cells #[] 83)).ownsRow wa.heap.size 83 4 (.slice (some ⟨wa.heap.size, 0, none⟩) 0 0) 0 [] from World.ownsRow_made wa.drew #[] 0 (Nat.le_refl _) (Nat.zero_le _) rfl)
                      have HW2 := hid (HW1.out.alloc (.cells #[.int .i64 la, .string (tx lp), .int .i64 lb, .string (tx lq)] 83))
                      have HW3 := hid (show ((wa.drew.alloc (.cells #[.int .i64 la, .string (tx lp), .int .i64 lb, .string (tx lq)] 83)).alloc (.cells #[] 83)).ownsRow wa.heap.size 83 4 (.slice (some ⟨wa.heap.size + 1, 0, none⟩) 0 0) 0 [] from ⟨rfl, Or.inr ⟨wa.heap.size + 1, 0, #[], rfl, by omega, new_1 _ _ _, Nat.le_refl _, Nat.zero_le _, rfl, rfl⟩⟩)
                      have HONE2 := hid (show ∀ u ∈ ([.int .i64 la, .string (tx lp), .int .i64 lb, .string (tx lq)] : List Value), u.oneCell' = true by simp [Value.oneCell'])
                      have K0 := HKP.out _ HB.out
                      go_wp2_with fail
                      go_region_held3 (fun W => W.cell? ⟨xb, 0, none⟩ = some (.int .i64 la) ∧ W.cell? ⟨xb, 1, none⟩ = some (.string (tx lp)) ∧ W.cell? ⟨xb, 2, none⟩ = some (.int .i64 lb) ∧ W.cell? ⟨xb, 3, none⟩ = some (.string (tx lq))) (first | exact K6 | exact K0 | exact HKP.out _ HX1.out | exact HKP.out _ HX4.out | exact HKP.out _ HX2.out | exact HKP.out _ HX3.out) (first | (refine step_append_srcD _ rfl (.tmp 164) (.tmp 166) 23 rfl wa.heap.size 83 i1 (.agg #[.int .i64 0, .string (tx []), .int .i64 0, .string (tx [])]) 4 48 Tryz.underlying23 HI1.out HZ01.out HZ11.out HZ21.out rfl (by decide) (.slice (some ⟨wa.heap.size, 0, none⟩) 0 0) 0 [] rfl (by exact HW2.out) (.slice (some ⟨wa.heap.size + 1, 0, none⟩) 1 1) 1 [.int .i64 la, .string (tx lp), .int .i64 lb, .string (tx lq)] rfl (Or.inr ⟨⟨wa.heap.size + 1, 0, none⟩, 1, rfl, rfl, World.news_of_block (new_1 _ _ _)⟩) HONE2.out (by unfold maxLen; omega) (by omega) (by exact HX2.out.size) ?_; intro v6 w6 hown6 hgr6; have L6 := hid (grownG HX2.out HW2.out hgr6 HX2.out.size); have K6 := HKP.out w6 L6.out; have F6 := hid (NxD.mk (w2 := wa) L6.out hown6)) | (refine step_append_srcD _ rfl (.tmp 164) (.tmp 166) 23 rfl wa.heap.size 83 i1 (.agg #[.int .i64 0, .string (tx []), .int .i64 0, .string (tx [])]) 4 48 Tryz.underlying23 HI1.out HZ01.out HZ11.out HZ21.out rfl (by decide) (.slice (some ⟨wa.heap.size + 1, 0, none⟩) 0 0) 0 [] rfl (by exact HW3.out) (.slice (some ⟨wa.heap.size, 0, none⟩) 1 1) 1 [.int .i64 la, .string (tx lp), .int .i64 lb, .string (tx lq)] rfl (Or.inr ⟨⟨wa.heap.size, 0, none⟩, 1, rfl, rfl, World.news_of_block (new_old _ _ (new_0 _ _))⟩) HONE2.out (by unfold maxLen; omega) (by omega) (by exact HX3.out.size) ?_; intro v6 w6 hown6 hgr6; have L6 := hid (grownG HX3.out HW3.out hgr6 HX3.out.size); have K6 := HKP.out w6 L6.out; have F6 := hid (NxD.mk (w2 := wa) L6.out hown6)))
                      all_goals (clear K0)
                      all_goals (try clear K6)
                      all_goals (
                        obtain ⟨a6, c6, hv6⟩ := own_formJ F6.out.own
                        subst hv6
                        have HR6 := hid (show Below wa.heap.size wa w6 ∧ w6.ownsRow wa.heap.size 83 4 (.slice a6 (0 + 1) c6) (0 + 1) (flatL (T.take 0) ++ [.int .i64 la, .string (tx lp), .int .i64 lb, .string (tx lq)]) from ⟨F6.out.low, by have q := F6.out.own; simpa [flatL] using q⟩)
                        clear F6 L6 hown6 hgr6
                        skip
                        go_wp2_with fail
                        go_meet
                        exact ⟨_, _, rfl, HR6⟩)
                    · subst hb0
                      have HSRC := hid (fun (X : World) (hX : Below wa.heap.size wa X) => (by
                        refine Or.inr ⟨⟨g2, 0, none⟩, lc, rfl, by rw [flatL_len, List.length_take, HTL.out]; omega, fun t u hu => ?_⟩
                        rw [addJ, Nat.zero_add, hX.cell (by exact hb3)]
                        refine hb4 t u ?_
                        have e : flatL T = flatL (T.take k) ++ flatL (T.drop k) := by rw [← flatL_app, List.take_append_drop]
                        rw [e, List.getElem?_append_left (List.getElem?_eq_some_iff.1 hu).1]
                        exact hu : ((.slice (some ⟨g2, 0, none⟩) k lc : Value) = .slice none 0 0 ∧ k = 0 ∧ flatL (T.take k) = []) ∨ ∃ ad c, (.slice (some ⟨g2, 0, none⟩) k lc : Value) = .slice (some ad) k c ∧ (flatL (T.take k)).length = k * 4 ∧ ∀ t u, (flatL (T.take k))[t]? = some u → X.cell? (ad.add t) = some u))
                      have hkc : (k : Int) ≤ (lc : Int) := by omega
                      clear hb4
                      have HB := hid (show Below wa.heap.size wa wa.drew from (Below.refl _ _).drew)
                      have HX1 := hid (HB.out.alloc (Nat.le_refl _) (.cells #[] 83))
                      have HX2 := hid (HX1.out.alloc HX1.out.size (.cells #[.int .i64 la, .string (tx lp), .int .i64 lb, .string (tx lq)] 83))
                      have HX4 := hid (HB.out.alloc (Nat.le_refl _) (.cells #[.int .i64 la, .string (tx lp), .int .i64 lb, .string (tx lq)] 83))
                      have HX3 := hid (HX4.out.alloc HX4.out.size (.cells #[] 83))
                      have HW1 := hid (show (wa.drew.alloc (.cells #[] 83)).ownsRow wa.heap.size 83 4 (.slice (some ⟨wa.heap.size, 0, none⟩) 0 0) 0 [] from World.ownsRow_made wa.drew #[] 0 (Nat.le_refl _) (Nat.zero_le _) rfl)
                      have HW2 := hid (HW1.out.alloc (.cells #[.int .i64 la, .string (tx lp), .int .i64 lb, .string (tx lq)] 83))
                      have HW3 := hid (show ((wa.drew.alloc (.cells #[.int .i64 la, .string (tx lp), .int .i64 lb, .string (tx lq)] 83)).alloc (.cells #[] 83)).ownsRow wa.heap.size 83 4 (.slice (some ⟨wa.heap.size + 1, 0, none⟩) 0 0) 0 [] from ⟨rfl, Or.inr ⟨wa.heap.size + 1, 0, #[], rfl, by omega, new_1 _ _ _, Nat.le_refl _, Nat.zero_le _, rfl, rfl⟩⟩)
                      have HONE2 := hid (show ∀ u ∈ ([.int .i64 la, .string (tx lp), .int .i64 lb, .string (tx lq)] : List Value), u.oneCell' = true by simp [Value.oneCell'])
                      have K0 := HKP.out _ HB.out
                      go_wp2_with fail
                      go_region_held3 (fun W => W.cell? ⟨xb, 0, none⟩ = some (.int .i64 la) ∧ W.cell? ⟨xb, 1, none⟩ = some (.string (tx lp)) ∧ W.cell? ⟨xb, 2, none⟩ = some (.int .i64 lb) ∧ W.cell? ⟨xb, 3, none⟩ = some (.string (tx lq))) (first | exact K6 | exact K5 | exact K0 | exact HKP.out _ HX1.out | exact HKP.out _ HX4.out | exact HKP.out _ HX2.out | exact HKP.out _ HX3.out | exact HKP.out _ (L5.out.alloc L5.out.size (.cells #[.int .i64 la, .string (tx lp), .int .i64 lb, .string (tx lq)] 83))) (first | (refine step_append_srcD _ (by rfl) (.tmp 164) (.tmp 166) 23 (by rfl) wa.heap.size 83 i1 (.agg #[.int .i64 0, .string (tx []), .int .i64 0, .string (tx [])]) 4 48 Tryz.underlying23 HI1.out HZ01.out HZ11.out HZ21.out rfl (by decide) v5 (0 + k) ([] ++ (flatL (T.take k))) (by rfl) (by exact hown5) (.slice (some ⟨wa.heap.size + 1, 0, none⟩) 1 1) 1 [.int .i64 la, .string (tx lp), .int .i64 lb, .string (tx lq)] (by rfl) (Or.inr ⟨⟨wa.heap.size + 1, 0, none⟩, 1, rfl, rfl, World.news_of_block N5b⟩) HONE2.out (by unfold maxLen; omega) (by omega) (by exact (L5.out).size) ?_; intro v6 w6 hown6 hgr6; have L6 := hid (grownG (L5.out) (hown5) hgr6 (L5.out).size); have K6 := HKP.out w6 L6.out; have F6 := hid (NxD.mk (w2 := wa) L6.out hown6)) | (refine step_append_srcD _ (by rfl) (.tmp 164) (.tmp 166) 23 (by rfl) wa.heap.size 83 i1 (.agg #[.int .i64 0, .string (tx []), .int .i64 0, .string (tx [])]) 4 48 Tryz.underlying23 HI1.out HZ01.out HZ11.out HZ21.out rfl (by decide) v5 (0 + k) ([] ++ (flatL (T.take k))) (by rfl) (by exact hown5) (.slice (some ⟨wa.heap.size, 0, none⟩) 1 1) 1 [.int .i64 la, .string (tx lp), .int .i64 lb, .string (tx lq)] (by rfl) (Or.inr ⟨⟨wa.heap.size, 0, none⟩, 1, rfl, rfl, World.news_of_block N5c⟩) HONE2.out (by unfold maxLen; omega) (by omega) (by exact (L5.out).size) ?_; intro v6 w6 hown6 hgr6; have L6 := hid (grownG (L5.out) (hown5) hgr6 (L5.out).size); have K6 := HKP.out w6 L6.out; have F6 := hid (NxD.mk (w2 := wa) L6.out hown6)) | (refine step_append_srcD _ (by rfl) (.tmp 164) (.tmp 166) 23 (by rfl) wa.heap.size 83 i1 (.agg #[.int .i64 0, .string (tx []), .int .i64 0, .string (tx [])]) 4 48 Tryz.underlying23 HI1.out HZ01.out HZ11.out HZ21.out rfl (by decide) v5 (0 + k) ([] ++ (flatL (T.take k))) (by rfl) (by exact hown5.alloc (.cells #[.int .i64 la, .string (tx lp), .int .i64 lb, .string (tx lq)] 83)) (.slice (some ⟨w5.heap.size, 0, none⟩) 1 1) 1 [.int .i64 la, .string (tx lp), .int .i64 lb, .string (tx lq)] (by rfl) (Or.inr ⟨⟨w5.heap.size, 0, none⟩, 1, rfl, rfl, World.news_of_block (new_0 w5 (.cells #[.int .i64 la, .string (tx lp), .int .i64 lb, .string (tx lq)] 83))⟩) HONE2.out (by unfold maxLen; omega) (by omega) (by exact (L5.out.alloc L5.out.size (.cells #[.int .i64 la, .string (tx lp), .int .i64 lb, .string (tx lq)] 83)).size) ?_; intro v6 w6 hown6 hgr6; have L6 := hid (grownG (L5.out.alloc L5.out.size (.cells #[.int .i64 la, .string (tx lp), .int .i64 lb, .string (tx lq)] 83)) (hown5.alloc (.cells #[.int .i64 la, .string (tx lp), .int .i64 lb, .string (tx lq)] 83)) hgr6 (L5.out.alloc L5.out.size (.cells #[.int .i64 la, .string (tx lp), .int .i64 lb, .string (tx lq)] 83)).size); have K6 := HKP.out w6 L6.out; have F6 := hid (NxD.mk (w2 := wa) L6.out hown6)) | (refine step_append_srcD _ (by rfl) (.tmp 160) (.tmp 163) 23 (by rfl) wa.heap.size 83 i1 (.agg #[.int .i64 0, .string (tx []), .int .i64 0, .string (tx [])]) 4 48 Tryz.underlying23 HI1.out HZ01.out HZ11.out HZ21.out rfl (by decide) (.slice (some ⟨wa.heap.size, 0, none⟩) 0 0) 0 [] (by rfl) (by exact HW2.out) (.slice (some ⟨g2, 0, none⟩) k lc) k (flatL (T.take k)) (by rfl) (HSRC.out _ HX2.out) HONE1.out (by unfold maxLen; omega) (by omega) (by exact HX2.out.size) ?_; intro v5 w5 hown5 hgr5; have L5 := hid (grownG HX2.out HW2.out hgr5 HX2.out.size); have K5 := HKP.out w5 L5.out; have N5b : w5.heap[wa.heap.size + 1]? = some (.cells #[.int .i64 la, .string (tx lp), .int .i64 lb, .string (tx lq)] 83) := (hgr5.block _ (by simp) (by simp [Value.ownBlock])).trans (new_1 _ _ _)) | (refine step_append_srcD _ (by rfl) (.tmp 160) (.tmp 163) 23 (by rfl) wa.heap.size 83 i1 (.agg #[.int .i64 0, .string (tx []), .int .i64 0, .string (tx [])]) 4 48 Tryz.underlying23 HI1.out HZ01.out HZ11.out HZ21.out rfl (by decide) (.slice (some ⟨wa.heap.size + 1, 0, none⟩) 0 0) 0 [] (by rfl) (by exact HW3.out) (.slice (some ⟨g2, 0, none⟩) k lc) k (flatL (T.take k)) (by rfl) (HSRC.out _ HX3.out) HONE1.out (by unfold maxLen; omega) (by omega) (by exact HX3.out.size) ?_; intro v5 w5 hown5 hgr5; have L5 := hid (grownG HX3.out HW3.out hgr5 HX3.out.size); have K5 := HKP.out w5 L5.out; have N5c : w5.heap[wa.heap.size]? = some (.cells #[.int .i64 la, .string (tx lp), .int .i64 lb, .string (tx lq)] 83) := (hgr5.block _ (by simp; omega) (by simp [Value.ownBlock])).trans (new_old _ _ (new_0 _ _))) | (refine step_append_srcD _ (by rfl) (.tmp 160) (.tmp 163) 23 (by rfl) wa.heap.size 83 i1 (.agg #[.int .i64 0, .string (tx []), .int .i64 0, .string (tx [])]) 4 48 Tryz.underlying23 HI1.out HZ01.out HZ11.out HZ21.out rfl (by decide) (.slice (some ⟨wa.heap.size, 0, none⟩) 0 0) 0 [] (by rfl) (by exact HW1.out) (.slice (some ⟨g2, 0, none⟩) k lc) k (flatL (T.take k)) (by rfl) (HSRC.out _ HX1.out) HONE1.out (by unfold maxLen; omega) (by omega) (by exact HX1.out.size) ?_; intro v5 w5 hown5 hgr5; have L5 := hid (grownG HX1.out HW1.out hgr5 HX1.out.size); have K5 := HKP.out w5 L5.out; skip))
                      all_goals (try clear K5)
                      all_goals (try clear hown5 hgr5)
                      all_goals (try clear L5)
                      all_goals (clear K0)
                      all_goals (try clear K6)
                      all_goals (
                        obtain ⟨a6, c6, hv6⟩ := own_formJ F6.out.own
                        subst hv6
                        have HR6 := hid (show Below wa.heap.size wa w6 ∧ w6.ownsRow wa.heap.size 83 4 (.slice a6 (k + 1) c6) (k + 1) (flatL (T.take k) ++ [.int .i64 la, .string (tx lp), .int .i64 lb, .string (tx lq)]) from ⟨F6.out.low, by have q := F6.out.own; simpa [flatL] using q⟩)
                        clear F6 L6 hown6 hgr6
                        (try simp only [Nat.zero_add])
                        go_wp2_with fail
                        go_meet
                        exact ⟨_, _, rfl, HR6⟩)
                  case rest =>
                    obtain ⟨a6, c6, rfl, HR6⟩ := hcut
                    rename World => w6
                    have HN7 := hid (fun (v7 : Value) (w7 : World) (n7 : Nat) (Q : List Value) (hn : n7 = j + 1) (ho : w7.ownsRow wa.heap.size 83 4 v7 n7 Q) (hT : Q = flatL (T.take k) ++ [.int .i64 la, .string (tx lp), .int .i64 lb, .string (tx lq)] ++ flatL (T.drop k)) (hg : w6.grownBy w7 (Value.slice a6 (k + 1) c6).ownBlock) => (show DnB W1 L (j + 1) v7 (T.take k ++ lj :: T.drop k) w7 from by
                      subst hn
                      subst hT
                      have hb4 : Below wa.heap.size wa w7 := grownG HR6.out.1 HR6.out.2 hg HR6.out.1.size
                      refine HT.out.next HLJ.out hk HU.out HLAST.out (HLOW5.out.trans (hb4.mono HLOW5.out.size)) ?_
                      rw [← HLL2.out] at ho
                      exact own_baseJ ho HLOW5.out.size))
                    have hsz4 := HR6.out.1.size
                    rcases own_rdJ HTR5.out with ⟨hb0, hj0, hc0, hS0⟩ | ⟨g2, hb0, hb1, hb2, hb3, hb4⟩
                    · subst hb0; subst hj0; subst hc0
                      have hk0 : k = 0 := by omega
                      subst hk0
                      clear hS0
                      have hS : T = [] := List.length_eq_zero_iff.1 HTL.out
                      have HF7 := hid (show w6.ownsRow wa.heap.size 83 4 (.slice a6 1 c6) 1 [.int .i64 la, .string (tx lp), .int .i64 lb, .string (tx lq)] from by have q := HR6.out.2; simpa [flatL] using q)
                      have HFN := hid (HN7.out (.slice a6 1 c6) w6 1 _ rfl HF7.out (by rw [hS]; simp [flatL]) (growRefl _ _))
                      clear hS
                      go_wp2_with (first | (at_builtin; refine wpList_append_own_none rfl _ _ 23 rfl wa.heap.size 83 i1 4 Tryz.underlying23 HI1.out (.slice a6 1 c6) 1 [.int .i64 la, .string (tx lp), .int .i64 lb, .string (tx lq)] rfl HF7.out rfl ?_))
                      go_roundw
                      case rel => exact ⟨1, a6, c6, _, by omega, by go_num, rfl, HFN⟩
                      case measure => simp [intOf]; omega
                    · subst hb0
                      have HNL := hid (show (flatL (T.drop k)).length = (j - k) * 4 from by rw [flatL_len, List.length_drop, HTL.out])
                      rcases Nat.lt_or_eq_of_le (show k ≤ lc by omega) with hkb | hkb
                      · have HSD := hid (fun (t : Nat) (u : Value) (hu : (flatL (T.drop k))[t]? = some u) => (by
                          rw [addJ, HR6.out.1.cell (by exact hb3)]
                          refine hb4 _ u ?_
                          have e : flatL T = flatL (T.take k) ++ flatL (T.drop k) := by rw [← flatL_app, List.take_append_drop]
                          have hl1 : (flatL (T.take k)).length = k * 4 := by rw [flatL_len, List.length_take, HTL.out, Nat.min_eq_left hk]
                          rw [e, List.getElem?_append_right (by omega), hl1, Nat.add_sub_cancel_left]
                          exact hu : w6.cell? ((⟨g2, k * 4, none⟩ : Addr).add t) = some u))
                        have hkc : (k : Int) < (lc : Int) := by omega
                        have hjc : (j : Int) ≤ (lc : Int) := by omega
                        clear hb4
                        go_wp2_with (first | (at_builtin; refine wpList_append_srcJ _ rfl (.tmp 168) (.tmp 171) 23 rfl wa.heap.size 83 i1 (.agg #[.int .i64 0, .string (tx []), .int .i64 0, .string (tx [])]) 4 48 Tryz.underlying23 HI1.out HZ01.out HZ11.out HZ21.out rfl (by decide) (.slice a6 (k + 1) c6) (k + 1) (flatL (T.take k) ++ [.int .i64 la, .string (tx lp), .int .i64 lb, .string (tx lq)]) rfl HR6.out.2 _ (j - k) (flatL (T.drop k)) rfl (.inr ⟨⟨g2, k * 4, none⟩, _, rfl, HNL.out, HSD.out⟩) HONE3.out (by unfold maxLen; omega) (by omega) (by omega) ?_))
                        intro v7 w7 hown7 hg7
                        obtain ⟨a7, c7, rfl⟩ := own_formJ hown7
                        have HFN := hid (HN7.out _ w7 (k + 1 + (j - k)) _ (by omega) hown7 (by simp) hg7)
                        rw [show k + 1 + (j - k) = j + 1 by omega] at HFN ⊢
                        clear hown7 hg7
                        go_wp2
                        go_roundw
                        case rel => exact ⟨j + 1, a7, c7, _, by omega, by go_num, rfl, HFN⟩
                        case measure => simp [intOf]; omega
                      · have hjk : j = k := by omega
                        subst hkb
                        subst hjk
                        have HS0 := hid (show T.drop j = [] from List.drop_eq_nil_of_le (by rw [HTL.out]; exact Nat.le_refl _))
                        clear hb4
                        go_wp2_with (first | (at_builtin; refine wpList_append_srcJ _ rfl (.tmp 168) (.tmp 171) 23 rfl wa.heap.size 83 i1 (.agg #[.int .i64 0, .string (tx []), .int .i64 0, .string (tx [])]) 4 48 Tryz.underlying23 HI1.out HZ01.out HZ11.out HZ21.out rfl (by decide) (.slice a6 (j + 1) c6) (j + 1) (flatL (T.take j) ++ [.int .i64 la, .string (tx lp), .int .i64 lb, .string (tx lq)]) rfl HR6.out.2 _ 0 [] rfl (.inr ⟨_, _, rfl, rfl, fun t u hu => by simp at hu⟩) (by simp) (by unfold maxLen; omega) (by omega) (by omega) ?_))
                        intro v7 w7 hown7 hg7
                        obtain ⟨a7, c7, rfl⟩ := own_formJ hown7
                        have HFN := hid (HN7.out _ w7 _ _ rfl hown7 (by rw [HS0.out]; simp [flatL]) hg7)
                        clear hown7 hg7
                        go_wp2
                        go_roundw
                        case rel => exact ⟨j + 1, a7, c7, _, by omega, by go_num, rfl, HFN⟩
                        case measure => simp [intOf]; omega
        · have hI : ¬ (j : Int) < (M : Int) := by omega
          have hjM : j = M := by omega
          subst hjM
          go_wp2_with fail
          go_meet
          exact ⟨_, T, rfl, HT⟩
    case rest =>
      obtain ⟨lv, T, rfl, HT⟩ := hcut
      obtain ⟨lo, lc, hlo⟩ := own_formJ HT.out.row
      subst hlo
      have hpw := (HS.out.on HT.out.low).pb_
      have q2 : wc.cell? ⟨pb, 2, none⟩ = some x2 := by rw [cell_at hpw]; rfl
      have qf : wc.frozen? ⟨pb, 2, none⟩ = false := free_of hpw
      obtain ⟨X, hX⟩ : ∃ X, X = wc.setCell ⟨pb, 2, none⟩ (.slice lo M lc) := ⟨_, rfl⟩
      have hRW : R < W1.heap.size := lt_of_block HSP.out.2.2.2
      have hXp : X.heap[pb]? = some (.cells #[.int .i64 wd, .slice bo N bc, .slice lo M lc, .slice nv M nc] 68 (0, 0)) := by rw [hX, block_set (o := 2) _ hpw]; rfl
      have hXR : X.heap[R]? = some (tobJ (.int .i64 0) (.slice none 0 0) (.slice none 0 0)) := by rw [hX, Below.heap_setCell _ _ _ _ (fun e => hpR e.symm), HT.out.low.block R hRW, HSP.out.2.2.2]
      have z0 : X.cell? ⟨pb, 0, none⟩ = some (.int .i64 wd) := by rw [cell_at hXp]; rfl
      have z1 : X.cell? ⟨pb, 1, none⟩ = some (.slice bo N bc) := by rw [cell_at hXp]; rfl
      have z2 : X.cell? ⟨pb, 2, none⟩ = some (.slice lo M lc) := by rw [cell_at hXp]; rfl
      have n0 : X.cell? ⟨R, 0, none⟩ = some (.int .i64 0) := by rw [cell_at hXR]; rfl
      have n1 : X.cell? ⟨R, 1, none⟩ = some (.slice none 0 0) := by rw [cell_at hXR]; rfl
      have n2 : X.cell? ⟨R, 2, none⟩ = some (.slice none 0 0) := by rw [cell_at hXR]; rfl
      have m0 : X.frozen? ⟨R, 0, none⟩ = false := free_of hXR
      have m1 : X.frozen? ⟨R, 1, none⟩ = false := free_of hXR
      have m2 : X.frozen? ⟨R, 2, none⟩ = false := free_of hXR
      obtain ⟨V, hV, ⟨v0, v1, v2⟩, bV, vk⟩ := par_box (X := X) (a := .int .i64 wd) (b := .slice bo N bc) (c := .slice lo M lc) hXR
      have HFN := hid (show ∃ ds' ls' c1 c2, Ending.returned (.agg #[.int .i64 wd, .slice bo N bc, .slice lo M lc]) = .returned (.agg #[.int .i64 wd, c1, c2]) ∧ ds'.Perm vs ∧ ds'.Pairwise (fun a b => ¬ b.1.name < a.1.name) ∧ ls'.Perm (lksN (ds'.map (·.1.name)) ns) ∧ ls'.Pairwise (fun a b => ¬ ocE b.a b.p a.a a.p < 0) ∧ DvO B V c1 ds' ∧ V.ownsRow B 83 4 c2 ls'.length (flatL ls') ∧ w.grownBy V (some pb) from by
        obtain ⟨s1, s2, s3, s4⟩ := HSP.out
        have hbT := HT.out.low
        have hDW := (HS.out.on hbT).dvs
        have hXk : ∀ k, k ≠ pb → k ≠ R → V.heap[k]? = wc.heap[k]? := fun k h1 h2 => by rw [vk k h2, hX, Below.heap_setCell _ _ _ _ h1]
        have hRc : wc.heap[R]? = some (tobJ (.int .i64 0) (.slice none 0 0) (.slice none 0 0)) := (hbT.block R hRW).trans s4
        have hTp := HT.out.perm
        rw [← HLL.out, List.take_of_length_le (Nat.le_refl _), HL.out] at hTp
        have hTl := HT.out.len (by rw [HLL.out]; exact Nat.le_refl _)
        have hTr := HT.out.row
        refine ⟨S, T, _, _, rfl, s1, s2, hTp, HT.out.up, ⟨?_, fun q hq => ?_, fun q hq => ?_⟩, ?_, ⟨?_, ?_, ?_, ?_, fun k hk hn => ?_⟩⟩
        · exact own_sameJ hDW.row fun k r => hXk k (fun e => own_notJ hDW.row hpw Tryz.devNeP (by rw [r]; exact congrArg some e)) (fun e => own_notJ hDW.row hRc Tryz.devNeT (by rw [r]; exact congrArg some e))
        · have hc := hDW.cls q hq
          exact own_sameJ hc fun k r => hXk k (fun e => own_notJ hc hpw Tryz.strNeP (by rw [r]; exact congrArg some e)) (fun e => own_notJ hc hRc Tryz.strNeT (by rw [r]; exact congrArg some e))
        · have hc := hDW.prt q hq
          exact own_sameJ hc fun k r => hXk k (fun e => own_notJ hc hpw Tryz.strNeP (by rw [r]; exact congrArg some e)) (fun e => own_notJ hc hRc Tryz.strNeT (by rw [r]; exact congrArg some e))
        · rw [hTl]
          exact own_baseJ (own_sameJ hTr fun k r => hXk k (fun e => own_notJ hTr hpw Tryz.lnkNeP (by rw [r]; exact congrArg some e)) (fun e => own_notJ hTr hRc Tryz.lnkNeT (by rw [r]; exact congrArg some e))) hB1
        · exact bV.os.trans (by rw [hX]; exact hbT.os.trans s3.os)
        · exact bV.tape.trans (by rw [hX]; exact hbT.tape.trans s3.tape)
        · exact bV.output.trans (by rw [hX]; exact hbT.output.trans s3.output)
        · have h1 := bV.size
          have h2 := hbT.size
          have h3 := s3.size
          have h4 : X.heap.size = wc.heap.size := by rw [hX]; simp
          omega
        · rw [hXk k (fun e => hn (by rw [e])) (by have := HRK.out; omega), hbT.block k (by have := s3.size; omega), s3.block k hk hn])
      rw [hV] at v0 v1 v2 HFN
      clear hXp hXR hV bV vk hpw
      go_upto_region 24 with fail
      rw [← hX]
      clear hX q2 qf
      go_wp2
      refine bodyPost_ret (v := .agg #[.int .i64 wd, .slice bo N bc, .slice lo M lc]) (by simp [results, Tryz.results35, go_sem, v0, v1, v2]) rfl ?_
      exact HFN.out
end Dt
end Go.Proofs.YtkepgjijidebhaaGreatDoor
