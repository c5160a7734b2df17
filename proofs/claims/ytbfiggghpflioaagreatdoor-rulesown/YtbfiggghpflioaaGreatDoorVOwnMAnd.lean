/-
  The law RulesOwn, of any rules.
  The law RulesOwn, of more than 60 rules.
  The law RulesOwn, of at most 60 rules.
  RulesOwn: the caller's own rules in memory, as they are built and as they are wiped.
-/
import Derived.Test.YtbfiggghpflioaaGreatDoorUDocPAnd
import Derived.Test.YtbfiggghpflioaaGreatDoorUStWAnd
import Derived.Test.YtbfiggghpflioaaGreatDoorUPrintAnd
import Derived.Test.YtbfiggghpflioaaGreatDoorUWordsAnd
namespace Go.Proofs.YtbfiggghpflioaaGreatDoor
open Go.RowKit

/-- Where the building of the caller's own rules stands. -/
structure MineAt (w : World) (ps : List (Raw × Value)) (j : Nat) (vb : Value) (qs : List (Raw × Value)) (wr : World) : Prop where
  low : Below w.heap.size w wr
  own : wr.ownsRow w.heap.size 28 4 vb j (flatV qs)
  same : qs.map Prod.fst = (ps.take j).map Prod.fst
  ported : ∀ q ∈ qs, Ported wr w.heap.size q.2 q.1.ports
theorem MineAt.next {w wo w4 w7 : World} {ps qs : List (Raw × Value)} {j an ac c4 bc : Nat} {bo ao ao4 : Option Addr} {r : Raw} {q0 v7 : Value} (h : MineAt w ps j (.slice bo j bc) qs wo) (hq : ps[j]? = some (r, q0))
    (hp : Ported w4 w.heap.size (.slice ao4 an c4) r.ports) (h41 : w4.heap[wo.heap.size]? = some (rob r.prio (tx r.mat) r.kind (.slice ao an ac))) (hb4 : Below wo.heap.size wo w4)
    (hown : w7.ownsRow w.heap.size 28 4 v7 (j + 1) (flatV qs ++ [.int .i64 r.prio, .string (tx r.mat), .int .i64 r.kind, .slice ao4 an c4]))
    (hg : ((w4.setCell ⟨wo.heap.size, 3, none⟩ (.slice ao4 an c4)).alloc (rob r.prio (tx r.mat) r.kind (.slice ao4 an c4))).grownBy w7 (Value.slice bo j bc).ownBlock) :
    MineAt w ps (j + 1) v7 (qs ++ [(r, .slice ao4 an c4)]) w7 := by
  have hb6 : Below wo.heap.size wo ((w4.setCell ⟨wo.heap.size, 3, none⟩ (.slice ao4 an c4)).alloc (rob r.prio (tx r.mat) r.kind (.slice ao4 an c4))) :=
    (hb4.setCell (p := ⟨wo.heap.size, 3, none⟩) (Nat.le_refl _) _).alloc (by simpa using hb4.size) _
  have ho6 := own_kept h.own hb6
  have hrow : ∀ b, (Value.slice bo j bc).ownBlock = some b → w.heap.size ≤ b ∧ ∃ cs, ((w4.setCell ⟨wo.heap.size, 3, none⟩ (.slice ao4 an c4)).alloc (rob r.prio (tx r.mat) r.kind (.slice ao4 an c4))).heap[b]? = some (.cells cs 28 (0, 0)) := fun b hb => by
    rcases ho6.2 with ⟨e, _⟩ | ⟨g, cap, cur, e, hB, hh, _⟩
    · rw [e] at hb; cases hb
    · rw [e] at hb
      have : g = b := by simpa [Value.ownBlock] using hb
      subst this
      exact ⟨hB, cur, hh⟩
  have hl6 := h.low.trans (hb6.mono h.low.size)
  refine ⟨hl6.grown hg hl6.size (fun b hb => (hrow b hb).1), ?_, ?_, fun q hq => ?_⟩
  · rw [flatV_append]; exact hown
  · rw [List.map_append, h.same, List.take_add_one, hq]; simp
  · refine Ported.grew ?_ hg (fun b hb => (hrow b hb).2)
    rcases List.mem_append.1 hq with hq | hq
    · exact (h.ported q hq).on hb6
    · rw [List.mem_singleton.1 hq]
      exact (hp.store h41).on ((Below.refl _ _).alloc (Nat.le_refl _) _)
theorem MineAt.len {w wr : World} {ps qs : List (Raw × Value)} {j : Nat} {vb : Value} (h : MineAt w ps j vb qs wr) (hj : j ≤ ps.length) : qs.length = j := by
  have := congrArg List.length h.same
  rw [List.length_map, List.length_map, List.length_take] at this
  omega

/-- Where the wiping of them stands: what lies below w or from hi on is as it was in wA. -/
structure Wiped (w : World) (hi g n : Nat) (qs : List (Raw × Value)) (wA : World) (j : Nat) (wr : World) : Prop where
  low : Below w.heap.size w wr
  size : wr.heap.size = wA.heap.size
  keep : ∀ b x, hi ≤ b → wA.heap[b]? = some x → wr.heap[b]? = some x
  row : ∃ cur, wr.heap[g]? = some (.cells cur 28 (0, 0)) ∧ n * 4 ≤ cur.size ∧ ∀ i q, j ≤ i → qs[i]? = some q → cur[i * 4 + 3]? = some q.2
  texts : ∀ q ∈ qs, ∃ ao c, q.2 = .slice ao q.1.ports.length c ∧ (q.1.ports.length = 0 ∨ ∃ b arr, ao = some ⟨b, 0, none⟩ ∧ w.heap.size ≤ b ∧ b < hi ∧ wr.heap[b]? = some (.cells arr 9 (0, 0)) ∧ q.1.ports.length ≤ arr.size)
theorem Wiped.text {w wA wr : World} {hi g n j b k : Nat} {qs : List (Raw × Value)} {arr : Array Value} (h : Wiped w hi g n qs wA j wr) (hb : wr.heap[b]? = some (.cells arr 9 (0, 0))) (h1 : w.heap.size ≤ b) (h2 : b < hi) (u : Value) : Wiped w hi g n qs wA j (wr.setCell ⟨b, k, none⟩ u) := by
  obtain ⟨cur, hr, hc, hx⟩ := h.row
  refine ⟨h.low.setCell (p := ⟨b, k, none⟩) h1 _, by simpa using h.size, fun x y hx hy => block_other _ (h.keep x y hx hy) (by omega), ⟨cur, block_other _ hr (ne_type hr hb (by decide)), hc, hx⟩, fun q hq => ?_⟩
  obtain ⟨ao, c, e, ht⟩ := h.texts q hq
  refine ⟨ao, c, e, ?_⟩
  rcases ht with ht | ⟨b', arr', e1, e2, e3, e4, e5⟩
  · exact Or.inl ht
  · by_cases hbb : b' = b
    · subst hbb
      have := hb.symm.trans e4
      simp only [Option.some.injEq, Obj.cells.injEq, and_true] at this
      subst this
      exact Or.inr ⟨b', _, e1, e2, e3, block_set _ e4, by simpa using e5⟩
    · exact Or.inr ⟨b', arr', e1, e2, e3, block_other _ e4 hbb, e5⟩
theorem Wiped.rule {w wA wr : World} {hi g n j : Nat} {qs : List (Raw × Value)} (h : Wiped w hi g n qs wA j wr) (h1 : w.heap.size ≤ g) (h2 : g < hi) (hj : j < n) (a b c d : Value) : Wiped w hi g n qs wA (j + 1) (put4 wr g (j * 4) a b c d) := by
  obtain ⟨cur, hr, hc, hx⟩ := h.row
  refine ⟨(((h.low.setCell (p := ⟨g, _, none⟩) h1 _).setCell (p := ⟨g, _, none⟩) h1 _).setCell (p := ⟨g, _, none⟩) h1 _).setCell (p := ⟨g, _, none⟩) h1 _, by have := h.size; unfold put4; simpa using this, fun x y hx hy => put4_other (h.keep x y hx hy) (by omega), ⟨_, put4_block hr, by simpa using hc, fun i q hi hq => ?_⟩, fun q hq => ?_⟩
  · rw [put4_get (by omega), if_neg (by omega), if_neg (by omega), if_neg (by omega), if_neg (by omega)]
    exact hx i q (by omega) hq
  · obtain ⟨ao, c, e, ht⟩ := h.texts q hq
    refine ⟨ao, c, e, ?_⟩
    rcases ht with ht | ⟨b', arr', e1, e2, e3, e4, e5⟩
    · exact Or.inl ht
    · exact Or.inr ⟨b', arr', e1, e2, e3, put4_other e4 (ne_type e4 hr (by decide)), e5⟩
theorem cell_keep {wA wr : World} {b o : Nat} {v : Value} (h : wA.cell? ⟨b, o, none⟩ = some v) (hk : ∀ x, wA.heap[b]? = some x → wr.heap[b]? = some x) : wr.cell? ⟨b, o, none⟩ = some v := by
  cases hx : wA.heap[b]? with
  | none => simp [World.cell?, hx] at h
  | some x =>
    have := hk x hx
    rw [← h]
    simp [World.cell?, hx, this]
/-- Rules that were told lie as they lay. -/
theorem Wiped.told {w wA wr : World} {hi g n j ob : Nat} {qs rs : List (Raw × Value)} (h : Wiped w hi g n qs wA j wr) (hv : RawView wA ob 0 rs) (hob : hi ≤ ob) (hp : ∀ q ∈ rs, Ported wA hi q.2 q.1.ports) : RawView wr ob 0 rs := by
  refine ⟨by have := h.size; have := hv.old; omega, fun i q hq => ?_, fun q hq => ⟨?_, (hv.ports q hq).2⟩⟩
  · obtain ⟨c0, c1, c2, c3⟩ := hv.cell i q hq
    exact ⟨cell_keep c0 fun x => h.keep _ x hob, cell_keep c1 fun x => h.keep _ x hob, cell_keep c2 fun x => h.keep _ x hob, cell_keep c3 fun x => h.keep _ x hob⟩
  · obtain ⟨ao, cap, e1, e2, e3⟩ := hp q hq
    refine Ported.txs (B := hi) ⟨ao, cap, e1, e2, ?_⟩
    rcases e3 with e3 | ⟨b, e3, e4, cs, e5, e6⟩
    · exact Or.inl e3
    · exact Or.inr ⟨b, e3, e4, cs, h.keep b _ e4 e5, e6⟩
/-- Rules of a row that was built of what came in. -/
theorem Wiped.want {w wA wr : World} {hi g n j B : Nat} {bo : Option Addr} {m cap : Nat} {qs rs : List (Raw × Value)} (h : Wiped w hi g n qs wA j wr) (ho : wA.ownsRow B 28 4 (.slice bo m cap) m (flatV rs)) (hB : hi ≤ B) (hm : 0 < m) (hp : ∀ q ∈ rs, Txs w q.2 q.1.ports ∧ ∀ p ∈ q.1.ports, p.length ≤ maxLen) : ∃ gw, bo = some ⟨gw, 0, none⟩ ∧ RawView wr gw 0 rs := by
  rcases own_cells ho with ⟨_, h0, _⟩ | ⟨gw, e, hBg, _, hgw, hc⟩
  · omega
  · exact ⟨gw, e, by have := h.size; omega, fun i q hq => (by
      obtain ⟨h0, h1, h2, h3⟩ := flatV_get hq
      rw [Nat.zero_add]
      exact ⟨cell_keep (hc _ _ h0) fun x => h.keep _ x (by omega), cell_keep (hc _ _ h1) fun x => h.keep _ x (by omega), cell_keep (hc _ _ h2) fun x => h.keep _ x (by omega), cell_keep (hc _ _ h3) fun x => h.keep _ x (by omega)⟩), fun q hq => ⟨(hp q hq).1.below h.low, (hp q hq).2⟩⟩
/-- The wiping's start. -/
theorem MineAt.wipe {w wo wA : World} {ps qs : List (Raw × Value)} {n gg c2 : Nat} (h : MineAt w ps n (.slice (some ⟨gg, 0, none⟩) n c2) qs wo) (hn : n ≤ ps.length) (hb : Below wo.heap.size wo wA) : Wiped w wo.heap.size gg n qs wA 0 wA ∧ w.heap.size ≤ gg ∧ gg < wo.heap.size := by
  have hl := h.len hn
  rcases h.own.2 with ⟨e, _⟩ | ⟨g, cap, cur, e, hB, hh, hnc, _, hs, ht⟩
  · cases e
  · injection e with e1 e2 e3
    simp only [Option.some.injEq, Addr.mk.injEq, and_true] at e1
    subst e1
    refine ⟨⟨h.low.trans (hb.mono h.low.size), rfl, fun b x _ hx => hx, ⟨cur, below_block hb hh (lt_of_block hh), by rw [hs]; omega, fun i q _ hq => ?_⟩, fun q hq => ?_⟩, hB, lt_of_block hh⟩
    · have := (flatV_get hq).2.2.2
      rw [← ht, List.getElem?_take] at this
      split at this
      · simpa using this
      · cases this
    · obtain ⟨ao, c, e1, e2, e3⟩ := h.ported q hq
      refine ⟨ao, c, e1, ?_⟩
      rcases e3 with e3 | ⟨b, e3, e4, cs, e5, e6⟩
      · exact Or.inl (by rw [e3]; rfl)
      · by_cases h0 : q.1.ports.length = 0
        · exact Or.inl h0
        · refine Or.inr ⟨b, cs, e3, e4, lt_of_block e5, below_block hb e5 (lt_of_block e5), ?_⟩
          have := e6 (q.1.ports.length - 1) (q.1.ports[q.1.ports.length - 1]'(by omega)) (List.getElem?_eq_getElem _)
          have := (Array.getElem?_eq_some_iff.1 this).1
          omega
theorem rawAt_same {ps qs : List (Raw × Value)} (h : qs.map Prod.fst = ps.map Prod.fst) (i : Nat) : rawAt qs i = rawAt ps i := by
  have e := congrArg (fun l => l[i]?) h
  simp only [List.getElem?_map] at e
  unfold rawAt
  cases h1 : qs[i]? with
  | none =>
    cases h2 : ps[i]? with
    | none => rfl
    | some b => rw [h1, h2] at e; simp at e
  | some a =>
    cases h2 : ps[i]? with
    | none => rw [h1, h2] at e; simp at e
    | some b => rw [h1, h2] at e; simpa using e
/-- Both orders of the same rules tell the same rules. -/
theorem own_order {ps qs rs : List (Raw × Value)} {L S : List Nat} {n : Nat} (he : qs.map Prod.fst = ps.map Prod.fst) (hn : ps.length = n) (hL : Pc (cmpAt qs) 0 n L) (hrs : rs.map Prod.fst = L.map (rawAt qs)) (hu : St.Up (cmpAt ps) S) (hp : S.Perm (List.range' 0 n)) : rs.map Prod.fst = (rowOf ps S).map Prod.fst := by
  have hqn : qs.length = n := by have := congrArg List.length he; rw [List.length_map, List.length_map] at this; omega
  have hmem : ∀ x ∈ S, x < n := fun x hx => by have := hp.mem_iff.1 hx; rw [List.mem_range'_1] at this; omega
  have hu2 : St.Up (cmpAt qs) S := by
    unfold St.Up at hu ⊢
    rw [List.pairwise_iff_getElem] at hu ⊢
    intro i j hi hj hij
    have h1 := hmem _ (List.getElem_mem hi)
    have h2 := hmem _ (List.getElem_mem hj)
    have e : cmpAt qs S[i] S[j] = cmpAt ps S[i] S[j] := by
      rw [cmpAt_raw (by omega) (by omega), cmpAt_raw (by omega) (by omega), rawAt_same he, rawAt_same he]
    have := hu i j hi hj hij
    unfold St.lt at this ⊢
    rw [e]; exact this
  have hLS : L = S := (ord_rules qs).one (fun x hx => by have := hL.mem hx; omega) hL.up hu2 (by have := hL.perm; rw [Nat.sub_zero] at this; exact this.trans hp.symm)
  rw [hrs, hLS]
  unfold rowOf
  rw [List.map_map]
  refine List.map_congr_left fun i hi => ?_
  rw [rawAt_same he]
  unfold rawAt
  simp only [Function.comp, List.getD_eq_getElem?_getD]
  cases ps[i]? <;> rfl
theorem same_small {ps qs : List (Raw × Value)} (he : qs.map Prod.fst = ps.map Prod.fst) (hs : ∀ q ∈ ps, Small q.1.mat q.1.ports) : ∀ q ∈ qs, Small q.1.mat q.1.ports := fun q hq => by
  have hm : q.1 ∈ qs.map Prod.fst := List.mem_map_of_mem hq
  rw [he] at hm
  obtain ⟨y, hy, e⟩ := List.mem_map.1 hm
  rw [← e]; exact hs y hy
end Go.Proofs.YtbfiggghpflioaaGreatDoor
namespace Go.Proofs.YtbfiggghpflioaaGreatDoor
open Go.RowKit

set_option maxRecDepth 20000 in
set_option maxHeartbeats 4000000 in
theorem rown_le {w : World} {g o cap n : Nat} {ps : List (Raw × Value)} (hF : ∀ w', Calls Tryz.prog 8 #[.slice (some ⟨g, o, none⟩) n cap] w' fun e w'' => e = .returned (.slice (some ⟨g, o, none⟩) n cap) ∧ w'' = w') (h : RawView w g o ps) (hn : ps.length = n) (h0 : 0 < n) (h60 : n ≤ 60) (hs : ∀ q ∈ ps, Small q.1.mat q.1.ports)
    (hA : ∀ w', Calls Tryz.prog 10 #[] w' fun e w'' => e = .returned (.bool true) ∧ Below w'.heap.size w' w'') :
    Calls Tryz.prog 3 #[.slice (some ⟨g, o, none⟩) n cap] w fun e w' => e = .returned (.bool true) ∧ Below w.heap.size w w' := by
  have mixed := Tryz.mixed
  have HF := hid hF
  have H := hid h
  have HN := hid hn
  have HS := hid hs
  have HAL := hid hA
  have hg := h.old
  obtain ⟨i0, hi, hz0, hz1, hz2⟩ := info_parts Tryz.infoRule4
  have HI := hid hi
  have HZ0 := hid hz0
  have HZ1 := hid hz1
  have HZ2 := hid hz2
  obtain ⟨i1, hi', hz0', hz1', hz2'⟩ := info_parts Tryz.infoStrV
  have HI' := hid hi'
  have HZ0' := hid hz0'
  have HZ1' := hid hz1'
  have HZ2' := hid hz2'
  have HV := hid (show ∀ W, Below w.heap.size w W → RawView W g o ps from fun W hW => ⟨Nat.lt_of_lt_of_le hg hW.size, fun i q hq => by
    obtain ⟨c0, c1, c2, c3⟩ := H.out.cell i q hq
    exact ⟨(hW.cell (by exact hg)).trans c0, (hW.cell (by exact hg)).trans c1, (hW.cell (by exact hg)).trans c2, (hW.cell (by exact hg)).trans c3⟩, fun q hq => ⟨(H.out.ports q hq).1.below hW, (H.out.ports q hq).2⟩⟩)
  have HB0 := hid (show MineAt w ps 0 (.slice none 0 0) [] w from ⟨Below.refl _ _, World.ownsRow_nil _ _ _ _, rfl, fun q hq => by cases hq⟩)
  clear hF h hn hs hA hi hz0 hz1 hz2 hi' hz0' hz1' hz2'
  go_enter Tryz.func3, Tryz.ntmps3
  go_wp2_with fail
  go_loopw [3, 4] (fun vb vi wr => ∃ (j : Nat) (bo : Option Addr) (bc : Nat) (qs : List (Raw × Value)), j ≤ n ∧ vi = .int .i64 j ∧ vb = .slice bo j bc ∧ Hid (MineAt w ps j (.slice bo j bc) qs wr)) (fun _ vi _ => n - (intOf vi).toNat)
  case atStart => exact ⟨0, none, 0, [], Nat.zero_le _, rfl, rfl, HB0⟩
  case round =>
    obtain ⟨j, bo, bc, qs, hj, rfl, rfl, HA⟩ := hrel
    rename World => wo
    by_cases hlt : j < n
    · obtain ⟨q, hq⟩ : ∃ q, ps[j]? = some q := ⟨ps[j]'(by rw [HN.out]; exact hlt), List.getElem?_eq_getElem _⟩
      have hI : (j : Int) < (n : Int) := by omega
      have hI2 : (j : Int) < 60 := by omega
      have j0 : (0 : Int) ≤ (j : Int) := by omega
      have hsm := HS.out q (List.mem_of_getElem? hq)
      obtain ⟨e0, e1, e2, e3⟩ := (HV.out _ HA.out.low).cell j q hq
      obtain ⟨ao, ac, hq2, hr⟩ := ((HV.out _ HA.out.low).ports q (List.mem_of_getElem? hq)).1
      obtain ⟨⟨pp, mm, kk, zz⟩, uv⟩ := q
      simp only at e0 e1 e2 e3 hq2 hr hsm
      obtain ⟨an, han⟩ : ∃ an, an = zz.length := ⟨_, rfl⟩
      have HAN := hid han
      rw [← han] at hq2
      subst hq2
      have HQ := hid hq
      have h16 : an * 16 ≤ 140737488355328 := by rw [han]; exact hsm.2.1
      have hsz := HA.out.low.size
      obtain ⟨W3, hW3⟩ : ∃ W3, W3 = (wo.alloc (rob pp (tx mm) kk (.slice ao an ac))).alloc (.cells #[] 9) := ⟨_, rfl⟩
      have HB3 := hid (show Below wo.heap.size wo W3 by rw [hW3]; exact ((Below.refl _ _).alloc (Nat.le_refl _) _).alloc (by simp) _)
      have HSZ := hid (show W3.heap.size = wo.heap.size + 2 by rw [hW3]; simp)
      have HR1 := hid (show W3.heap[wo.heap.size]? = some (rob pp (tx mm) kk (.slice ao an ac)) by rw [hW3]; exact new_old _ _ (new_0 _ _))
      have HR3 := hid (show W3.ownsRow w.heap.size 9 1 (.slice (some ⟨wo.heap.size + 1, 0, none⟩) 0 0) 0 [] from ⟨rfl, Or.inr ⟨wo.heap.size + 1, 0, #[], rfl, by omega, by rw [hW3]; have := new_0 (wo.alloc (rob pp (tx mm) kk (.slice ao an ac))) (.cells #[] 9); simpa using this, Nat.le_refl _, Nat.zero_le _, rfl, rfl⟩⟩)
      have HSRC := hid (show (∃ c, (.slice ao an ac : Value) = .slice none 0 c ∧ an = 0 ∧ zz.map (fun z => Value.string (tx z)) = []) ∨ ∃ ad c, (.slice ao an ac : Value) = .slice (some ad) an c ∧ (zz.map fun z => Value.string (tx z)).length = an * 1 ∧ ∀ j u, (zz.map fun z => Value.string (tx z))[j]? = some u → W3.cell? (ad.add j) = some u from by
        cases ao with
        | none =>
          have h0 : zz = [] := by rcases hr with q | ⟨g, o, q, _⟩; exact q; cases q
          subst h0
          have hn0 : an = 0 := HAN.out
          exact Or.inl ⟨ac, by rw [hn0], hn0, rfl⟩
        | some ad =>
          refine Or.inr ⟨ad, ac, rfl, by simp [HAN.out], fun j u hj => ?_⟩
          rw [List.getElem?_map, Option.map_eq_some_iff] at hj
          obtain ⟨z, hz, rfl⟩ := hj
          have hjl : j < zz.length := (List.getElem?_eq_some_iff.1 hz).1
          rcases hr with q | ⟨g, o, q, hg, hc⟩
          · rw [q] at hz; simp at hz
          · cases q
            rw [addr_add5, HB3.out.cell (by exact hg), hc j hjl, List.getD_eq_getElem?_getD, hz]
            rfl)
      have H1 := hid (show ∀ u ∈ zz.map (fun z => Value.string (tx z)), u.oneCell' = true from fun u hu => by obtain ⟨z, _, rfl⟩ := List.mem_map.1 hu; rfl)
      have HB3w := hid (show w.heap.size ≤ W3.heap.size by rw [HSZ.out]; omega)
      have HFA := hid (show ∀ (v4 : Value) (w4 : World), w4.ownsRow w.heap.size 9 1 v4 (0 + an) ([] ++ zz.map fun z => Value.string (tx z)) → W3.grownBy w4 (Value.slice (some ⟨wo.heap.size + 1, 0, none⟩) 0 0).ownBlock → ∃ ao4 c4, v4 = .slice ao4 an c4 ∧ Ported w4 w.heap.size (.slice ao4 an c4) zz ∧ w4.heap[wo.heap.size]? = some (rob pp (tx mm) kk (.slice ao an ac)) ∧ Below wo.heap.size wo w4 from fun v4 w4 ho hg => by
        rw [Nat.zero_add, List.nil_append, HAN.out] at ho
        have hp := ported_own ho
        obtain ⟨ao4, c4, e4, _⟩ := hp
        rw [← HAN.out] at e4
        have hown : ∀ b, (Value.slice (some ⟨wo.heap.size + 1, 0, none⟩) 0 0).ownBlock = some b → b = wo.heap.size + 1 := fun b hb => by simpa [Value.ownBlock] using hb.symm
        subst e4
        refine ⟨ao4, c4, rfl, ported_own ho, ?_, HB3.out.grown hg (by rw [HSZ.out]; omega) (fun b hb => by have := hown b hb; omega)⟩
        rw [hg.block _ (by rw [HSZ.out]; omega) (fun e => by have := hown _ e.symm; omega)]; exact HR1.out)
      have HFB := hid (show ∀ (ao4 : Option Addr) (c4 : Nat) (w4 : World), Below wo.heap.size wo w4 → ((w4.setCell ⟨wo.heap.size, 3, none⟩ (.slice ao4 an c4)).alloc (rob pp (tx mm) kk (.slice ao4 an c4))).ownsRow w.heap.size 28 4 (.slice bo j bc) j (flatV qs) ∧ (∃ ad c, (.slice (some ⟨w4.heap.size, 0, none⟩) 1 1 : Value) = .slice (some ad) 1 c ∧ ([.int .i64 pp, .string (tx mm), .int .i64 kk, .slice ao4 an c4] : List Value).length = 1 * 4 ∧ ∀ t u, ([.int .i64 pp, .string (tx mm), .int .i64 kk, .slice ao4 an c4] : List Value)[t]? = some u → ((w4.setCell ⟨wo.heap.size, 3, none⟩ (.slice ao4 an c4)).alloc (rob pp (tx mm) kk (.slice ao4 an c4))).cell? (ad.add t) = some u) ∧ w.heap.size ≤ ((w4.setCell ⟨wo.heap.size, 3, none⟩ (.slice ao4 an c4)).alloc (rob pp (tx mm) kk (.slice ao4 an c4))).heap.size from fun ao4 c4 w4 hb4 => by
        have hb6 : Below wo.heap.size wo ((w4.setCell ⟨wo.heap.size, 3, none⟩ (.slice ao4 an c4)).alloc (rob pp (tx mm) kk (.slice ao4 an c4))) := (hb4.setCell (p := ⟨wo.heap.size, 3, none⟩) (Nat.le_refl _) _).alloc (by simpa using hb4.size) _
        refine ⟨own_kept HA.out.own hb6, ⟨⟨w4.heap.size, 0, none⟩, 1, rfl, rfl, fun t u hu => ?_⟩, by have := hb6.size; omega⟩
        have hnew := new_0 (w4.setCell ⟨wo.heap.size, 3, none⟩ (.slice ao4 an c4)) (rob pp (tx mm) kk (.slice ao4 an c4))
        rw [show (w4.setCell ⟨wo.heap.size, 3, none⟩ (.slice ao4 an c4)).heap.size = w4.heap.size by simp] at hnew
        rw [addr_add5, Nat.zero_add, cell_at hnew, ← Array.getElem?_toList]
        exact hu)
      have HO4 := hid (show ∀ (ao4 : Option Addr) (c4 : Nat), ∀ u ∈ ([.int .i64 pp, .string (tx mm), .int .i64 kk, .slice ao4 an c4] : List Value), u.oneCell' = true from fun ao4 c4 u hu => by
        simp only [List.mem_cons, List.not_mem_nil, or_false] at hu
        rcases hu with rfl | rfl | rfl | rfl <;> rfl)
      obtain ⟨a0, a1, a2, a3, _, _, _, _⟩ := rob_cells HR1.out
      subst hW3
      clear hq han hr hsm
      go_wp2_with (first | (at_builtin; refine wpList_append_srcC _ rfl _ _ 24 rfl w.heap.size 9 i1 _ 1 16 Tryz.underlying24 HI'.out HZ0'.out HZ1'.out HZ2'.out rfl (by decide) _ _ _ rfl HR3.out _ an (zz.map fun z => Value.string (tx z)) rfl HSRC.out H1.out (by unfold maxLen; omega) (by omega) HB3w.out ?_; intro v4 w4 hown4 hg4; obtain ⟨ao4, c4, hv4, hp4, h41, hb4⟩ := HFA.out v4 w4 hown4 hg4; subst hv4; have HP4 := hid hp4; have H41 := hid h41; have HB4 := hid hb4; obtain ⟨x0, x1, x2, x3, y0, y1, y2, y3⟩ := rob_cells h41; obtain ⟨u0, u1, u2, u3, _, _, _, _⟩ := rob_cells (rob_4 h41 (.slice ao4 an c4)); obtain ⟨ho6, hs6, hz6⟩ := HFB.out ao4 c4 w4 hb4; have HO6 := hid ho6; have HS6 := hid hs6; have HZ6 := hid hz6; clear hown4 hg4 hp4 h41 hb4 ho6 hs6 hz6) | (at_builtin; refine wpList_append_srcC _ rfl _ _ 22 rfl w.heap.size 28 i0 _ 4 56 Tryz.underlying22 HI.out HZ0.out HZ1.out HZ2.out rfl (by decide) (.slice bo j bc) j (flatV qs) rfl HO6.out _ 1 [.int .i64 pp, .string (tx mm), .int .i64 kk, .slice ao4 an c4] rfl (Or.inr HS6.out) (HO4.out _ _) (by unfold maxLen; omega) (by omega) HZ6.out ?_; intro v7 w7 hown7 hg7; obtain ⟨a7, c7, hv7⟩ := own_form hown7; subst hv7; have HM7 := hid (HA.out.next HQ.out HP4.out H41.out HB4.out hown7 hg7); clear hown7 hg7))
      go_roundw
      case rel => exact ⟨j + 1, a7, c7, _, by omega, by go_num, rfl, HM7⟩
      case measure => simp [intOf]; omega
    · have hjn : j = n := by omega
      subst hjn
      have hI : ¬ ((j : Int) < (j : Int)) := by omega
      have HLQ := hid (HA.out.len (by rw [HN.out]; omega))
      have HSQ := hid (show qs.map Prod.fst = ps.map Prod.fst by rw [HA.out.same, List.take_of_length_le (by rw [HN.out]; omega)])
      obtain ⟨g2, hbo, hg2w, hg2c, hg2, hc2⟩ : ∃ g2, bo = some ⟨g2, 0, none⟩ ∧ w.heap.size ≤ g2 ∧ j ≤ bc ∧ g2 < wo.heap.size ∧ ∀ (t : Nat) (u : Value), (flatV qs)[t]? = some u → wo.cell? ⟨g2, t, none⟩ = some u := by
        rcases own_cells HA.out.own with ⟨_, h0, _⟩ | h
        · omega
        · exact h
      subst hbo
      have HP0 := hid (show ∀ q ∈ qs, ∀ p ∈ q.1.ports, p.length ≤ maxLen from fun q hq p hp => by have := (same_small HSQ.out HS.out q hq).2.2 p hp; unfold maxLen; omega)
      have HV2 := hid (show ∀ W, Below wo.heap.size wo W → RawView W g2 0 qs from fun W hW => ⟨Nat.lt_of_lt_of_le hg2 hW.size, fun i q hq => by
        obtain ⟨h0, h1, h2, h3⟩ := flatV_get hq
        rw [Nat.zero_add]
        exact ⟨(hW.cell (by exact hg2)).trans (hc2 _ _ h0), (hW.cell (by exact hg2)).trans (hc2 _ _ h1), (hW.cell (by exact hg2)).trans (hc2 _ _ h2), (hW.cell (by exact hg2)).trans (hc2 _ _ h3)⟩, fun q hq => ⟨((HA.out.ported q hq).on hW).txs, HP0.out q hq⟩⟩)
      have HO1 := hid (Order_some (cap := bc) (HV2.out _ (Below.refl _ _)) HLQ.out (by omega) (same_small HSQ.out HS.out))
      clear hc2
      go_wp2_with fail
      refine HO1.out.mono ?_
      rintro en w5 ⟨ob1, qs1, L1, hP1⟩
      have hen := hP1.out.told
      subst hen
      have HP1 := hid hP1.out
      clear hP1
      have B5 := hid (HA.out.low.trans (HP1.out.low.mono HA.out.low.size))
      go_wp2_with fail
      refine (HF.out _).mono ?_
      rintro en w6 ⟨rfl, hww⟩
      have hw6 := hww.symm
      clear hww
      subst hw6
      have HD := hid (ROrder_some (cap := cap) (HV.out _ B5.out) HN.out (by omega))
      go_wp2_with fail
      refine HD.out.mono ?_
      rintro en w7 ⟨do_, dc, S, rfl, hD⟩
      have HDD := hid hD.out
      clear hD
      have B7 := hid (HP1.out.low.trans (HDD.out.low.mono HP1.out.low.size))
      have B7w := hid (HA.out.low.trans (B7.out.mono HA.out.low.size))
      go_wp2_with fail
      refine (HF.out _).mono ?_
      rintro en w8 ⟨rfl, hww⟩
      have hw8 := hww.symm
      clear hww
      subst hw8
      have HSR := hid (SameRules_rr bc cap j (HV2.out _ B7.out) (fun q hq => by have := (same_small HSQ.out HS.out q hq).2.1; unfold maxLen; omega) (HV.out _ B7w.out) HLQ.out HN.out HSQ.out (by omega))
      go_wp2_with fail
      refine HSR.out.mono ?_
      rintro en w9 ⟨rfl, hb9⟩
      have B9 := hid (B7.out.trans (hb9.mono B7.out.size))
      have D9 := hid (own_kept HDD.out.own hb9)
      have P9 := hid (show ∀ q ∈ qs1, Ported w9 wo.heap.size q.2 q.1.ports from fun q hq => ((HP1.out.own q hq).on HDD.out.low).on hb9)
      have V9 := hid (show RawView w9 ob1 0 qs1 from by
        have hv := HP1.out.view
        have hb := HDD.out.low.trans (hb9.mono HDD.out.low.size)
        exact ⟨Nat.lt_of_lt_of_le hv.old hb.size, fun i q hq => by
          obtain ⟨c0, c1, c2, c3⟩ := hv.cell i q hq
          exact ⟨(hb.cell (by exact hv.old)).trans c0, (hb.cell (by exact hv.old)).trans c1, (hb.cell (by exact hv.old)).trans c2, (hb.cell (by exact hv.old)).trans c3⟩, fun q hq => ⟨(hv.ports q hq).1.below hb, (hv.ports q hq).2⟩⟩)
      have HW0 := hid (HA.out.wipe (by rw [HN.out]; omega) B9.out).1
      have HL1 := hid (show qs1.length = j by have q := congrArg List.length HP1.out.same; rw [List.length_map, List.length_map] at q; have := HP1.out.sorted.len; omega)
      have HEQ := hid (show qs1.map Prod.fst = (rowOf ps S).map Prod.fst from own_order HSQ.out HN.out HP1.out.sorted HP1.out.same HDD.out.up HDD.out.perm)
      clear hb9
      go_wp2_with fail
      go_loopw [47] (fun vi wr => ∃ i : Nat, i ≤ j ∧ vi = .int .i64 i ∧ Hid (Wiped w wo.heap.size g2 j qs w9 i wr)) (fun vi _ => j - (intOf vi).toNat)
      case atStart => exact ⟨0, Nat.zero_le _, rfl, HW0⟩
      case round =>
        obtain ⟨i, hi, rfl, HW⟩ := hrel
        rename World => wy
        by_cases hij : i < j
        · obtain ⟨q, hq⟩ : ∃ q, qs[i]? = some q := ⟨qs[i]'(by rw [HLQ.out]; exact hij), List.getElem?_eq_getElem _⟩
          have HQ := hid hq
          have HM := hid (List.mem_of_getElem? hq)
          obtain ⟨ao, c, hq2, _⟩ := HW.out.texts q HM.out
          obtain ⟨pn, hpn⟩ : ∃ pn, pn = q.1.ports.length := ⟨_, rfl⟩
          have HPN := hid hpn
          rw [← hpn] at hq2
          have HQ2 := hid hq2
          have hpb : pn ≤ 8796093022208 := by have := (same_small HSQ.out HS.out q HM.out).2.1; omega
          have e3 : wy.cell? ⟨g2, i * 4 + 3, none⟩ = some (.slice ao pn c) := by
            obtain ⟨cur, hr, _, hx⟩ := HW.out.row
            rw [cell_at hr, hx i q (Nat.le_refl _) hq, hq2]
          have iI : (i : Int) < (j : Int) := by omega
          have i0 : (0 : Int) ≤ (i : Int) := by omega
          clear hq hq2 hpn
          go_wp2_with fail
          go_loopw [57] (fun vk wx => ∃ k : Nat, k ≤ pn ∧ vk = .int .i64 k ∧ Hid (Wiped w wo.heap.size g2 j qs w9 i wx)) (fun vk _ => pn - (intOf vk).toNat)
          case atStart => exact ⟨0, Nat.zero_le _, rfl, HW⟩
          case round =>
            obtain ⟨k, hk, rfl, HX⟩ := hrel
            rename World => wx
            clear e3
            by_cases hkn : k < pn
            · obtain ⟨b, arr, hao, hb1, hb2, hb3, hb4⟩ : ∃ b arr, ao = some ⟨b, 0, none⟩ ∧ w.heap.size ≤ b ∧ b < wo.heap.size ∧ wx.heap[b]? = some (.cells arr 9 (0, 0)) ∧ pn ≤ arr.size := by
                obtain ⟨ao', c', e, ht⟩ := HX.out.texts q HM.out
                rw [HQ2.out] at e
                injection e with e1 _ _
                rcases ht with ht | ⟨b, arr, f1, f2, f3, f4, f5⟩
                · have := HPN.out; omega
                · exact ⟨b, arr, e1.trans f1, f2, f3, f4, by rw [HPN.out]; exact f5⟩
              subst hao
              have e3 : wx.cell? ⟨g2, i * 4 + 3, none⟩ = some (.slice (some ⟨b, 0, none⟩) pn c) := by
                obtain ⟨cur, hr, _, hx⟩ := HX.out.row
                rw [cell_at hr, hx i q (Nat.le_refl _) HQ.out, HQ2.out]
              obtain ⟨old, z0⟩ : ∃ old, wx.cell? ⟨b, k, none⟩ = some old := ⟨arr[k]'(by omega), by rw [cell_at hb3]; exact Array.getElem?_eq_getElem _⟩
              have z1 : wx.frozen? ⟨b, k, none⟩ = false := free_of hb3
              have kI : (k : Int) < (pn : Int) := by omega
              have k0 : (0 : Int) ≤ (k : Int) := by omega
              have HX2 := hid (show ∀ u, Wiped w wo.heap.size g2 j qs w9 i (wx.setCell ⟨b, k, none⟩ u) from fun u => HX.out.text hb3 hb1 hb2 u)
              clear hb1 hb2 hb3 hb4
              go_wp2
              go_roundw
              case rel => exact ⟨k + 1, by omega, by go_num, HX2.out _⟩
              case measure => simp [intOf]; omega
            · have kI : ¬ ((k : Int) < (pn : Int)) := by omega
              have hrow : ∀ t, t < 4 → (∃ old, wx.cell? ⟨g2, i * 4 + t, none⟩ = some old) ∧ wx.frozen? ⟨g2, i * 4 + t, none⟩ = false := fun t ht => by
                obtain ⟨cur, hr, hc, _⟩ := HX.out.row
                exact ⟨⟨cur[i * 4 + t]'(by omega), by rw [cell_at hr]; exact Array.getElem?_eq_getElem _⟩, free_of hr⟩
              obtain ⟨⟨o0, z0⟩, f0⟩ := hrow 0 (by omega)
              obtain ⟨⟨o1, z1⟩, f1⟩ := hrow 1 (by omega)
              obtain ⟨⟨o2, z2⟩, f2⟩ := hrow 2 (by omega)
              obtain ⟨⟨o3, z3⟩, f3⟩ := hrow 3 (by omega)
              rw [Nat.add_zero] at z0 f0
              have HX2 := hid (show Wiped w wo.heap.size g2 j qs w9 (i + 1) (put4 wx g2 (i * 4) (.int .i64 0) (.string (tx [])) (.int .i64 0) (.slice none 0 0)) from HX.out.rule hg2w hg2 hij _ _ _ _)
              clear hrow
              go_wp2
              go_roundw
              case rel => exact ⟨i + 1, by omega, by go_num, HX2⟩
              case measure => simp [intOf]; omega
        · have iI : ¬ ((i : Int) < (j : Int)) := by omega
          have HT := hid (HW.out.told V9.out HP1.out.new P9.out)
          obtain ⟨gw, hdo, hvw⟩ := HW.out.want D9.out HP1.out.low.size h0 (fun q hq => by
            unfold rowOf at hq
            obtain ⟨y, hy, e⟩ := List.mem_map.1 hq
            have hyj := HDD.out.mem hy
            have hyp : ps[y]? = some (ps[y]'(by rw [HN.out]; exact hyj)) := List.getElem?_eq_getElem _
            rw [List.getD_eq_getElem?_getD, hyp] at e
            rw [← e]
            exact H.out.ports _ (List.mem_of_getElem? hyp))
          subst hdo
          have HSR2 := hid (SameRules_rr j dc j HT.out (fun q hq => by
            have hm : q.1 ∈ qs1.map Prod.fst := List.mem_map_of_mem hq
            rw [HP1.out.same] at hm
            obtain ⟨y, _, hy⟩ := List.mem_map.1 hm
            rw [← hy, rawAt_same HSQ.out]
            unfold rawAt
            cases hpy : ps[y]? with
            | none => simp
            | some q0 => have := (HS.out q0 (List.mem_of_getElem? hpy)).2.1; show q0.1.ports.length ≤ _; unfold maxLen; omega) hvw HL1.out (by rw [rowOf_len, HDD.out.len]) HEQ.out (by omega))
          have BW := hid HW.out.low
          clear hvw
          go_wp2_with fail
          refine HSR2.out.mono ?_
          rintro en w10 ⟨rfl, hb10⟩
          have B10 := hid (BW.out.trans (hb10.mono BW.out.size))
          clear hb10
          go_wp2_with (first | (go_at_call 10; refine (HAL.out _).mono ?_; rintro e w11 ⟨rfl, hb11⟩))
          go_ret
          exact ⟨rfl, B10.out.trans (hb11.mono B10.out.size)⟩
end Go.Proofs.YtbfiggghpflioaaGreatDoor
namespace Go.Proofs.YtbfiggghpflioaaGreatDoor
open Go.RowKit

set_option maxRecDepth 20000 in
set_option maxHeartbeats 4000000 in
theorem rown_gt {w : World} {g o len cap n : Nat} {ps : List (Raw × Value)} (hF : ∀ w', Calls Tryz.prog 8 #[.slice (some ⟨g, o, none⟩) len cap] w' fun e w'' => e = .returned (.slice (some ⟨g, o, none⟩) n cap) ∧ w'' = w') (h : RawView w g o ps) (hn : ps.length = n) (h0 : 0 < n) (h60 : n ≤ 60) (h61 : 60 ≤ n) (hlen : 60 < len) (hs : ∀ q ∈ ps, Small q.1.mat q.1.ports)
    (hA : ∀ w', Calls Tryz.prog 10 #[] w' fun e w'' => e = .returned (.bool true) ∧ Below w'.heap.size w' w'') :
    Calls Tryz.prog 3 #[.slice (some ⟨g, o, none⟩) len cap] w fun e w' => e = .returned (.bool true) ∧ Below w.heap.size w w' := by
  have mixed := Tryz.mixed
  have HF := hid hF
  have H := hid h
  have HN := hid hn
  have HS := hid hs
  have HAL := hid hA
  have hg := h.old
  obtain ⟨i0, hi, hz0, hz1, hz2⟩ := info_parts Tryz.infoRule4
  have HI := hid hi
  have HZ0 := hid hz0
  have HZ1 := hid hz1
  have HZ2 := hid hz2
  obtain ⟨i1, hi', hz0', hz1', hz2'⟩ := info_parts Tryz.infoStrV
  have HI' := hid hi'
  have HZ0' := hid hz0'
  have HZ1' := hid hz1'
  have HZ2' := hid hz2'
  have HV := hid (show ∀ W, Below w.heap.size w W → RawView W g o ps from fun W hW => ⟨Nat.lt_of_lt_of_le hg hW.size, fun i q hq => by
    obtain ⟨c0, c1, c2, c3⟩ := H.out.cell i q hq
    exact ⟨(hW.cell (by exact hg)).trans c0, (hW.cell (by exact hg)).trans c1, (hW.cell (by exact hg)).trans c2, (hW.cell (by exact hg)).trans c3⟩, fun q hq => ⟨(H.out.ports q hq).1.below hW, (H.out.ports q hq).2⟩⟩)
  have HB0 := hid (show MineAt w ps 0 (.slice none 0 0) [] w from ⟨Below.refl _ _, World.ownsRow_nil _ _ _ _, rfl, fun q hq => by cases hq⟩)
  clear hF h hn hs hA hi hz0 hz1 hz2 hi' hz0' hz1' hz2'
  go_enter Tryz.func3, Tryz.ntmps3
  go_wp2_with fail
  go_loopw [3, 4] (fun vb vi wr => ∃ (j : Nat) (bo : Option Addr) (bc : Nat) (qs : List (Raw × Value)), j ≤ n ∧ vi = .int .i64 j ∧ vb = .slice bo j bc ∧ Hid (MineAt w ps j (.slice bo j bc) qs wr)) (fun _ vi _ => n - (intOf vi).toNat)
  case atStart => exact ⟨0, none, 0, [], Nat.zero_le _, rfl, rfl, HB0⟩
  case round =>
    obtain ⟨j, bo, bc, qs, hj, rfl, rfl, HA⟩ := hrel
    rename World => wo
    by_cases hlt : j < n
    · obtain ⟨q, hq⟩ : ∃ q, ps[j]? = some q := ⟨ps[j]'(by rw [HN.out]; exact hlt), List.getElem?_eq_getElem _⟩
      have hI : (j : Int) < (len : Int) := by omega
      have hI2 : (j : Int) < 60 := by omega
      have j0 : (0 : Int) ≤ (j : Int) := by omega
      have hsm := HS.out q (List.mem_of_getElem? hq)
      obtain ⟨e0, e1, e2, e3⟩ := (HV.out _ HA.out.low).cell j q hq
      obtain ⟨ao, ac, hq2, hr⟩ := ((HV.out _ HA.out.low).ports q (List.mem_of_getElem? hq)).1
      obtain ⟨⟨pp, mm, kk, zz⟩, uv⟩ := q
      simp only at e0 e1 e2 e3 hq2 hr hsm
      obtain ⟨an, han⟩ : ∃ an, an = zz.length := ⟨_, rfl⟩
      have HAN := hid han
      rw [← han] at hq2
      subst hq2
      have HQ := hid hq
      have h16 : an * 16 ≤ 140737488355328 := by rw [han]; exact hsm.2.1
      have hsz := HA.out.low.size
      obtain ⟨W3, hW3⟩ : ∃ W3, W3 = (wo.alloc (rob pp (tx mm) kk (.slice ao an ac))).alloc (.cells #[] 9) := ⟨_, rfl⟩
      have HB3 := hid (show Below wo.heap.size wo W3 by rw [hW3]; exact ((Below.refl _ _).alloc (Nat.le_refl _) _).alloc (by simp) _)
      have HSZ := hid (show W3.heap.size = wo.heap.size + 2 by rw [hW3]; simp)
      have HR1 := hid (show W3.heap[wo.heap.size]? = some (rob pp (tx mm) kk (.slice ao an ac)) by rw [hW3]; exact new_old _ _ (new_0 _ _))
      have HR3 := hid (show W3.ownsRow w.heap.size 9 1 (.slice (some ⟨wo.heap.size + 1, 0, none⟩) 0 0) 0 [] from ⟨rfl, Or.inr ⟨wo.heap.size + 1, 0, #[], rfl, by omega, by rw [hW3]; have := new_0 (wo.alloc (rob pp (tx mm) kk (.slice ao an ac))) (.cells #[] 9); simpa using this, Nat.le_refl _, Nat.zero_le _, rfl, rfl⟩⟩)
      have HSRC := hid (show (∃ c, (.slice ao an ac : Value) = .slice none 0 c ∧ an = 0 ∧ zz.map (fun z => Value.string (tx z)) = []) ∨ ∃ ad c, (.slice ao an ac : Value) = .slice (some ad) an c ∧ (zz.map fun z => Value.string (tx z)).length = an * 1 ∧ ∀ j u, (zz.map fun z => Value.string (tx z))[j]? = some u → W3.cell? (ad.add j) = some u from by
        cases ao with
        | none =>
          have h0 : zz = [] := by rcases hr with q | ⟨g, o, q, _⟩; exact q; cases q
          subst h0
          have hn0 : an = 0 := HAN.out
          exact Or.inl ⟨ac, by rw [hn0], hn0, rfl⟩
        | some ad =>
          refine Or.inr ⟨ad, ac, rfl, by simp [HAN.out], fun j u hj => ?_⟩
          rw [List.getElem?_map, Option.map_eq_some_iff] at hj
          obtain ⟨z, hz, rfl⟩ := hj
          have hjl : j < zz.length := (List.getElem?_eq_some_iff.1 hz).1
          rcases hr with q | ⟨g, o, q, hg, hc⟩
          · rw [q] at hz; simp at hz
          · cases q
            rw [addr_add5, HB3.out.cell (by exact hg), hc j hjl, List.getD_eq_getElem?_getD, hz]
            rfl)
      have H1 := hid (show ∀ u ∈ zz.map (fun z => Value.string (tx z)), u.oneCell' = true from fun u hu => by obtain ⟨z, _, rfl⟩ := List.mem_map.1 hu; rfl)
      have HB3w := hid (show w.heap.size ≤ W3.heap.size by rw [HSZ.out]; omega)
      have HFA := hid (show ∀ (v4 : Value) (w4 : World), w4.ownsRow w.heap.size 9 1 v4 (0 + an) ([] ++ zz.map fun z => Value.string (tx z)) → W3.grownBy w4 (Value.slice (some ⟨wo.heap.size + 1, 0, none⟩) 0 0).ownBlock → ∃ ao4 c4, v4 = .slice ao4 an c4 ∧ Ported w4 w.heap.size (.slice ao4 an c4) zz ∧ w4.heap[wo.heap.size]? = some (rob pp (tx mm) kk (.slice ao an ac)) ∧ Below wo.heap.size wo w4 from fun v4 w4 ho hg => by
        rw [Nat.zero_add, List.nil_append, HAN.out] at ho
        have hp := ported_own ho
        obtain ⟨ao4, c4, e4, _⟩ := hp
        rw [← HAN.out] at e4
        have hown : ∀ b, (Value.slice (some ⟨wo.heap.size + 1, 0, none⟩) 0 0).ownBlock = some b → b = wo.heap.size + 1 := fun b hb => by simpa [Value.ownBlock] using hb.symm
        subst e4
        refine ⟨ao4, c4, rfl, ported_own ho, ?_, HB3.out.grown hg (by rw [HSZ.out]; omega) (fun b hb => by have := hown b hb; omega)⟩
        rw [hg.block _ (by rw [HSZ.out]; omega) (fun e => by have := hown _ e.symm; omega)]; exact HR1.out)
      have HFB := hid (show ∀ (ao4 : Option Addr) (c4 : Nat) (w4 : World), Below wo.heap.size wo w4 → ((w4.setCell ⟨wo.heap.size, 3, none⟩ (.slice ao4 an c4)).alloc (rob pp (tx mm) kk (.slice ao4 an c4))).ownsRow w.heap.size 28 4 (.slice bo j bc) j (flatV qs) ∧ (∃ ad c, (.slice (some ⟨w4.heap.size, 0, none⟩) 1 1 : Value) = .slice (some ad) 1 c ∧ ([.int .i64 pp, .string (tx mm), .int .i64 kk, .slice ao4 an c4] : List Value).length = 1 * 4 ∧ ∀ t u, ([.int .i64 pp, .string (tx mm), .int .i64 kk, .slice ao4 an c4] : List Value)[t]? = some u → ((w4.setCell ⟨wo.heap.size, 3, none⟩ (.slice ao4 an c4)).alloc (rob pp (tx mm) kk (.slice ao4 an c4))).cell? (ad.add t) = some u) ∧ w.heap.size ≤ ((w4.setCell ⟨wo.heap.size, 3, none⟩ (.slice ao4 an c4)).alloc (rob pp (tx mm) kk (.slice ao4 an c4))).heap.size from fun ao4 c4 w4 hb4 => by
        have hb6 : Below wo.heap.size wo ((w4.setCell ⟨wo.heap.size, 3, none⟩ (.slice ao4 an c4)).alloc (rob pp (tx mm) kk (.slice ao4 an c4))) := (hb4.setCell (p := ⟨wo.heap.size, 3, none⟩) (Nat.le_refl _) _).alloc (by simpa using hb4.size) _
        refine ⟨own_kept HA.out.own hb6, ⟨⟨w4.heap.size, 0, none⟩, 1, rfl, rfl, fun t u hu => ?_⟩, by have := hb6.size; omega⟩
        have hnew := new_0 (w4.setCell ⟨wo.heap.size, 3, none⟩ (.slice ao4 an c4)) (rob pp (tx mm) kk (.slice ao4 an c4))
        rw [show (w4.setCell ⟨wo.heap.size, 3, none⟩ (.slice ao4 an c4)).heap.size = w4.heap.size by simp] at hnew
        rw [addr_add5, Nat.zero_add, cell_at hnew, ← Array.getElem?_toList]
        exact hu)
      have HO4 := hid (show ∀ (ao4 : Option Addr) (c4 : Nat), ∀ u ∈ ([.int .i64 pp, .string (tx mm), .int .i64 kk, .slice ao4 an c4] : List Value), u.oneCell' = true from fun ao4 c4 u hu => by
        simp only [List.mem_cons, List.not_mem_nil, or_false] at hu
        rcases hu with rfl | rfl | rfl | rfl <;> rfl)
      obtain ⟨a0, a1, a2, a3, _, _, _, _⟩ := rob_cells HR1.out
      subst hW3
      clear hq han hr hsm
      go_wp2_with (first | (at_builtin; refine wpList_append_srcC _ rfl _ _ 24 rfl w.heap.size 9 i1 _ 1 16 Tryz.underlying24 HI'.out HZ0'.out HZ1'.out HZ2'.out rfl (by decide) _ _ _ rfl HR3.out _ an (zz.map fun z => Value.string (tx z)) rfl HSRC.out H1.out (by unfold maxLen; omega) (by omega) HB3w.out ?_; intro v4 w4 hown4 hg4; obtain ⟨ao4, c4, hv4, hp4, h41, hb4⟩ := HFA.out v4 w4 hown4 hg4; subst hv4; have HP4 := hid hp4; have H41 := hid h41; have HB4 := hid hb4; obtain ⟨x0, x1, x2, x3, y0, y1, y2, y3⟩ := rob_cells h41; obtain ⟨u0, u1, u2, u3, _, _, _, _⟩ := rob_cells (rob_4 h41 (.slice ao4 an c4)); obtain ⟨ho6, hs6, hz6⟩ := HFB.out ao4 c4 w4 hb4; have HO6 := hid ho6; have HS6 := hid hs6; have HZ6 := hid hz6; clear hown4 hg4 hp4 h41 hb4 ho6 hs6 hz6) | (at_builtin; refine wpList_append_srcC _ rfl _ _ 22 rfl w.heap.size 28 i0 _ 4 56 Tryz.underlying22 HI.out HZ0.out HZ1.out HZ2.out rfl (by decide) (.slice bo j bc) j (flatV qs) rfl HO6.out _ 1 [.int .i64 pp, .string (tx mm), .int .i64 kk, .slice ao4 an c4] rfl (Or.inr HS6.out) (HO4.out _ _) (by unfold maxLen; omega) (by omega) HZ6.out ?_; intro v7 w7 hown7 hg7; obtain ⟨a7, c7, hv7⟩ := own_form hown7; subst hv7; have HM7 := hid (HA.out.next HQ.out HP4.out H41.out HB4.out hown7 hg7); clear hown7 hg7))
      go_roundw
      case rel => exact ⟨j + 1, a7, c7, _, by omega, by go_num, rfl, HM7⟩
      case measure => simp [intOf]; omega
    · have hjn : j = n := by omega
      subst hjn
      have hI : (j : Int) < (len : Int) := by omega
      have hI2 : ¬ ((j : Int) < 60) := by omega
      have HLQ := hid (HA.out.len (by rw [HN.out]; omega))
      have HSQ := hid (show qs.map Prod.fst = ps.map Prod.fst by rw [HA.out.same, List.take_of_length_le (by rw [HN.out]; omega)])
      obtain ⟨g2, hbo, hg2w, hg2c, hg2, hc2⟩ : ∃ g2, bo = some ⟨g2, 0, none⟩ ∧ w.heap.size ≤ g2 ∧ j ≤ bc ∧ g2 < wo.heap.size ∧ ∀ (t : Nat) (u : Value), (flatV qs)[t]? = some u → wo.cell? ⟨g2, t, none⟩ = some u := by
        rcases own_cells HA.out.own with ⟨_, h0, _⟩ | h
        · omega
        · exact h
      subst hbo
      have HP0 := hid (show ∀ q ∈ qs, ∀ p ∈ q.1.ports, p.length ≤ maxLen from fun q hq p hp => by have := (same_small HSQ.out HS.out q hq).2.2 p hp; unfold maxLen; omega)
      have HV2 := hid (show ∀ W, Below wo.heap.size wo W → RawView W g2 0 qs from fun W hW => ⟨Nat.lt_of_lt_of_le hg2 hW.size, fun i q hq => by
        obtain ⟨h0, h1, h2, h3⟩ := flatV_get hq
        rw [Nat.zero_add]
        exact ⟨(hW.cell (by exact hg2)).trans (hc2 _ _ h0), (hW.cell (by exact hg2)).trans (hc2 _ _ h1), (hW.cell (by exact hg2)).trans (hc2 _ _ h2), (hW.cell (by exact hg2)).trans (hc2 _ _ h3)⟩, fun q hq => ⟨((HA.out.ported q hq).on hW).txs, HP0.out q hq⟩⟩)
      have HO1 := hid (Order_some (cap := bc) (HV2.out _ (Below.refl _ _)) HLQ.out (by omega) (same_small HSQ.out HS.out))
      clear hc2
      go_wp2_with fail
      refine HO1.out.mono ?_
      rintro en w5 ⟨ob1, qs1, L1, hP1⟩
      have hen := hP1.out.told
      subst hen
      have HP1 := hid hP1.out
      clear hP1
      have B5 := hid (HA.out.low.trans (HP1.out.low.mono HA.out.low.size))
      go_wp2_with fail
      refine (HF.out _).mono ?_
      rintro en w6 ⟨rfl, hww⟩
      have hw6 := hww.symm
      clear hww
      subst hw6
      have HD := hid (ROrder_some (cap := cap) (HV.out _ B5.out) HN.out (by omega))
      go_wp2_with fail
      refine HD.out.mono ?_
      rintro en w7 ⟨do_, dc, S, rfl, hD⟩
      have HDD := hid hD.out
      clear hD
      have B7 := hid (HP1.out.low.trans (HDD.out.low.mono HP1.out.low.size))
      have B7w := hid (HA.out.low.trans (B7.out.mono HA.out.low.size))
      go_wp2_with fail
      refine (HF.out _).mono ?_
      rintro en w8 ⟨rfl, hww⟩
      have hw8 := hww.symm
      clear hww
      subst hw8
      have HSR := hid (SameRules_rr bc cap j (HV2.out _ B7.out) (fun q hq => by have := (same_small HSQ.out HS.out q hq).2.1; unfold maxLen; omega) (HV.out _ B7w.out) HLQ.out HN.out HSQ.out (by omega))
      go_wp2_with fail
      refine HSR.out.mono ?_
      rintro en w9 ⟨rfl, hb9⟩
      have B9 := hid (B7.out.trans (hb9.mono B7.out.size))
      have D9 := hid (own_kept HDD.out.own hb9)
      have P9 := hid (show ∀ q ∈ qs1, Ported w9 wo.heap.size q.2 q.1.ports from fun q hq => ((HP1.out.own q hq).on HDD.out.low).on hb9)
      have V9 := hid (show RawView w9 ob1 0 qs1 from by
        have hv := HP1.out.view
        have hb := HDD.out.low.trans (hb9.mono HDD.out.low.size)
        exact ⟨Nat.lt_of_lt_of_le hv.old hb.size, fun i q hq => by
          obtain ⟨c0, c1, c2, c3⟩ := hv.cell i q hq
          exact ⟨(hb.cell (by exact hv.old)).trans c0, (hb.cell (by exact hv.old)).trans c1, (hb.cell (by exact hv.old)).trans c2, (hb.cell (by exact hv.old)).trans c3⟩, fun q hq => ⟨(hv.ports q hq).1.below hb, (hv.ports q hq).2⟩⟩)
      have HW0 := hid (HA.out.wipe (by rw [HN.out]; omega) B9.out).1
      have HL1 := hid (show qs1.length = j by have q := congrArg List.length HP1.out.same; rw [List.length_map, List.length_map] at q; have := HP1.out.sorted.len; omega)
      have HEQ := hid (show qs1.map Prod.fst = (rowOf ps S).map Prod.fst from own_order HSQ.out HN.out HP1.out.sorted HP1.out.same HDD.out.up HDD.out.perm)
      clear hb9
      go_wp2_with fail
      go_loopw [47] (fun vi wr => ∃ i : Nat, i ≤ j ∧ vi = .int .i64 i ∧ Hid (Wiped w wo.heap.size g2 j qs w9 i wr)) (fun vi _ => j - (intOf vi).toNat)
      case atStart => exact ⟨0, Nat.zero_le _, rfl, HW0⟩
      case round =>
        obtain ⟨i, hi, rfl, HW⟩ := hrel
        rename World => wy
        by_cases hij : i < j
        · obtain ⟨q, hq⟩ : ∃ q, qs[i]? = some q := ⟨qs[i]'(by rw [HLQ.out]; exact hij), List.getElem?_eq_getElem _⟩
          have HQ := hid hq
          have HM := hid (List.mem_of_getElem? hq)
          obtain ⟨ao, c, hq2, _⟩ := HW.out.texts q HM.out
          obtain ⟨pn, hpn⟩ : ∃ pn, pn = q.1.ports.length := ⟨_, rfl⟩
          have HPN := hid hpn
          rw [← hpn] at hq2
          have HQ2 := hid hq2
          have hpb : pn ≤ 8796093022208 := by have := (same_small HSQ.out HS.out q HM.out).2.1; omega
          have e3 : wy.cell? ⟨g2, i * 4 + 3, none⟩ = some (.slice ao pn c) := by
            obtain ⟨cur, hr, _, hx⟩ := HW.out.row
            rw [cell_at hr, hx i q (Nat.le_refl _) hq, hq2]
          have iI : (i : Int) < (j : Int) := by omega
          have i0 : (0 : Int) ≤ (i : Int) := by omega
          clear hq hq2 hpn
          go_wp2_with fail
          go_loopw [57] (fun vk wx => ∃ k : Nat, k ≤ pn ∧ vk = .int .i64 k ∧ Hid (Wiped w wo.heap.size g2 j qs w9 i wx)) (fun vk _ => pn - (intOf vk).toNat)
          case atStart => exact ⟨0, Nat.zero_le _, rfl, HW⟩
          case round =>
            obtain ⟨k, hk, rfl, HX⟩ := hrel
            rename World => wx
            clear e3
            by_cases hkn : k < pn
            · obtain ⟨b, arr, hao, hb1, hb2, hb3, hb4⟩ : ∃ b arr, ao = some ⟨b, 0, none⟩ ∧ w.heap.size ≤ b ∧ b < wo.heap.size ∧ wx.heap[b]? = some (.cells arr 9 (0, 0)) ∧ pn ≤ arr.size := by
                obtain ⟨ao', c', e, ht⟩ := HX.out.texts q HM.out
                rw [HQ2.out] at e
                injection e with e1 _ _
                rcases ht with ht | ⟨b, arr, f1, f2, f3, f4, f5⟩
                · have := HPN.out; omega
                · exact ⟨b, arr, e1.trans f1, f2, f3, f4, by rw [HPN.out]; exact f5⟩
              subst hao
              have e3 : wx.cell? ⟨g2, i * 4 + 3, none⟩ = some (.slice (some ⟨b, 0, none⟩) pn c) := by
                obtain ⟨cur, hr, _, hx⟩ := HX.out.row
                rw [cell_at hr, hx i q (Nat.le_refl _) HQ.out, HQ2.out]
              obtain ⟨old, z0⟩ : ∃ old, wx.cell? ⟨b, k, none⟩ = some old := ⟨arr[k]'(by omega), by rw [cell_at hb3]; exact Array.getElem?_eq_getElem _⟩
              have z1 : wx.frozen? ⟨b, k, none⟩ = false := free_of hb3
              have kI : (k : Int) < (pn : Int) := by omega
              have k0 : (0 : Int) ≤ (k : Int) := by omega
              have HX2 := hid (show ∀ u, Wiped w wo.heap.size g2 j qs w9 i (wx.setCell ⟨b, k, none⟩ u) from fun u => HX.out.text hb3 hb1 hb2 u)
              clear hb1 hb2 hb3 hb4
              go_wp2
              go_roundw
              case rel => exact ⟨k + 1, by omega, by go_num, HX2.out _⟩
              case measure => simp [intOf]; omega
            · have kI : ¬ ((k : Int) < (pn : Int)) := by omega
              have hrow : ∀ t, t < 4 → (∃ old, wx.cell? ⟨g2, i * 4 + t, none⟩ = some old) ∧ wx.frozen? ⟨g2, i * 4 + t, none⟩ = false := fun t ht => by
                obtain ⟨cur, hr, hc, _⟩ := HX.out.row
                exact ⟨⟨cur[i * 4 + t]'(by omega), by rw [cell_at hr]; exact Array.getElem?_eq_getElem _⟩, free_of hr⟩
              obtain ⟨⟨o0, z0⟩, f0⟩ := hrow 0 (by omega)
              obtain ⟨⟨o1, z1⟩, f1⟩ := hrow 1 (by omega)
              obtain ⟨⟨o2, z2⟩, f2⟩ := hrow 2 (by omega)
              obtain ⟨⟨o3, z3⟩, f3⟩ := hrow 3 (by omega)
              rw [Nat.add_zero] at z0 f0
              have HX2 := hid (show Wiped w wo.heap.size g2 j qs w9 (i + 1) (put4 wx g2 (i * 4) (.int .i64 0) (.string (tx [])) (.int .i64 0) (.slice none 0 0)) from HX.out.rule hg2w hg2 hij _ _ _ _)
              clear hrow
              go_wp2
              go_roundw
              case rel => exact ⟨i + 1, by omega, by go_num, HX2⟩
              case measure => simp [intOf]; omega
        · have iI : ¬ ((i : Int) < (j : Int)) := by omega
          have HT := hid (HW.out.told V9.out HP1.out.new P9.out)
          obtain ⟨gw, hdo, hvw⟩ := HW.out.want D9.out HP1.out.low.size h0 (fun q hq => by
            unfold rowOf at hq
            obtain ⟨y, hy, e⟩ := List.mem_map.1 hq
            have hyj := HDD.out.mem hy
            have hyp : ps[y]? = some (ps[y]'(by rw [HN.out]; exact hyj)) := List.getElem?_eq_getElem _
            rw [List.getD_eq_getElem?_getD, hyp] at e
            rw [← e]
            exact H.out.ports _ (List.mem_of_getElem? hyp))
          subst hdo
          have HSR2 := hid (SameRules_rr j dc j HT.out (fun q hq => by
            have hm : q.1 ∈ qs1.map Prod.fst := List.mem_map_of_mem hq
            rw [HP1.out.same] at hm
            obtain ⟨y, _, hy⟩ := List.mem_map.1 hm
            rw [← hy, rawAt_same HSQ.out]
            unfold rawAt
            cases hpy : ps[y]? with
            | none => simp
            | some q0 => have := (HS.out q0 (List.mem_of_getElem? hpy)).2.1; show q0.1.ports.length ≤ _; unfold maxLen; omega) hvw HL1.out (by rw [rowOf_len, HDD.out.len]) HEQ.out (by omega))
          have BW := hid HW.out.low
          clear hvw
          go_wp2_with fail
          refine HSR2.out.mono ?_
          rintro en w10 ⟨rfl, hb10⟩
          have B10 := hid (BW.out.trans (hb10.mono BW.out.size))
          clear hb10
          go_wp2_with (first | (go_at_call 10; refine (HAL.out _).mono ?_; rintro e w11 ⟨rfl, hb11⟩))
          go_ret
          exact ⟨rfl, B10.out.trans (hb11.mono B10.out.size)⟩
end Go.Proofs.YtbfiggghpflioaaGreatDoor
namespace Go.Proofs.YtbfiggghpflioaaGreatDoor
open Go.RowKit

set_option maxRecDepth 20000 in
set_option maxHeartbeats 2000000 in
theorem ROrder_empty {w : World} {ao : Option Addr} {cap : Nat} : Calls Tryz.prog 7 #[.slice ao 0 cap] w fun e w' => e = .returned (.slice none 0 0) ∧ Below w.heap.size w w' := by
  go_enter Tryz.func7, Tryz.ntmps7
  go_wp2_with fail
  refine wp_loop_rounds 1 ?_
  rw [rounds_succ]
  go_wp2
  go_ret
  exact ⟨rfl, Below.refl _ _⟩

set_option maxRecDepth 20000 in
set_option maxHeartbeats 2000000 in
theorem rown_none {w : World} {ao : Option Addr} {cap : Nat} (hF : ∀ w', Calls Tryz.prog 8 #[.slice ao 0 cap] w' fun e w'' => e = .returned (.slice ao 0 cap) ∧ w'' = w') :
    Calls Tryz.prog 3 #[.slice ao 0 cap] w fun e w' => e = .returned (.bool true) ∧ Below w.heap.size w w' := by
  have HF := hid hF
  clear hF
  go_enter Tryz.func3, Tryz.ntmps3
  go_wp2_with fail
  refine wp_loop_rounds 1 ?_
  rw [rounds_succ]
  go_wp2_with fail
  refine Order_none.mono ?_
  rintro en w2 ⟨o1, rfl, hb2⟩
  have B2 := hid hb2
  clear hb2
  go_wp2_with fail
  refine (HF.out _).mono ?_
  rintro en w3 ⟨rfl, hww⟩
  have hw3 := hww.symm
  clear hww
  subst hw3
  go_wp2_with fail
  refine ROrder_empty.mono ?_
  rintro en w4 ⟨rfl, hb4⟩
  have B4 := hid (below_two B2.out hb4)
  clear hb4
  go_wp2_with fail
  refine (HF.out _).mono ?_
  rintro en w5 ⟨rfl, hww⟩
  have hw5 := hww.symm
  clear hww
  subst hw5
  go_wp2_with fail
  refine (SameRules_none _ _ _ _ _).mono ?_
  rintro en w6 ⟨rfl, hb6⟩
  have B6 := hid (below_two B4.out hb6)
  clear hb6
  go_wp2_with fail
  refine wp_loop_rounds 1 ?_
  rw [rounds_succ]
  go_wp2_with fail
  refine (SameRules_none _ _ _ _ _).mono ?_
  rintro en w7 ⟨rfl, hb7⟩
  have B7 := hid (below_two B6.out hb7)
  clear hb7
  go_wp2_with (first | (go_at_call 10; refine (ualive _).mono ?_; rintro e w9 ⟨rfl, hb9⟩))
  go_ret
  exact ⟨rfl, below_two B7.out hb9⟩

theorem rown_any {w : World} {ao : Option Addr} {len cap : Nat} {ps : List (Raw × Value)} (h : RawIn w ao ps) (hl : ps.length = len) (hc : len ≤ cap) (hs : ∀ q ∈ ps, Small q.1.mat q.1.ports) :
    Calls Tryz.prog 3 #[.slice ao len cap] w fun e w' => e = .returned (.bool true) ∧ Below w.heap.size w w' := by
  have hF : ∀ w', Calls Tryz.prog 8 #[.slice ao len cap] w' fun e w'' => e = .returned (.slice ao (min len 60) cap) ∧ w'' = w' := fun w' => few_any ao len cap w' hc (by
    rcases h.at_ with rfl | ⟨g, o, e, _⟩
    · exact Or.inl (by simpa using hl.symm)
    · exact Or.inr ⟨g, o, e⟩)
  have hln : (ps.take 60).length = min len 60 := by rw [List.length_take, hl]; omega
  have hst : ∀ q ∈ ps.take 60, Small q.1.mat q.1.ports := fun q hq => hs q (List.mem_of_mem_take hq)
  by_cases h0 : len = 0
  · subst h0
    exact rown_none hF
  · rcases (h.take 60).at_ with q | ⟨g, o, rfl, hv⟩
    · rw [q] at hln; simp at hln; omega
    · by_cases h60 : len ≤ 60
      · rw [Nat.min_eq_left h60] at hF hln
        exact rown_le hF hv hln (by omega) h60 hst ualive
      · rw [Nat.min_eq_right (by omega)] at hF hln
        exact rown_gt hF hv hln (by omega) (by omega) (by omega) (by omega) hst ualive
end Go.Proofs.YtbfiggghpflioaaGreatDoor
