/-
  Proved: for every width, every row of changes and every row of headers that are together of bulk at most 1048576 the law FibDeads answers true (Dead tells the rules that no header meets; where they are taken away, what is done with every header stays), and leaves its arguments as they were. Conditions: the form's own (FibDeadsUptoSaid).
  Changes that came in, and how long their parts may be.
  The law FibDeads: of any width, any changes and any headers that are not too many it answers true.
-/
import Derived.Test.YtipmlcdnfaobiaaGreatVLStpAnd
import Derived.SizedLaws
import Derived.Test.YtipmlcdnfaobiaaGreatUCopyAnd
import Derived.Test.YtipmlcdnfaobiaaGreatUPrintAnd
import Derived.Test.YtipmlcdnfaobiaaGreatVTryAAnd
import Derived.Test.YtipmlcdnfaobiaaGreatRows
import Derived.WalkKit
import Derived.ProofKit
import Derived.OpenShut
import Derived.ShutString
import Derived.JoinedCond
namespace Go.Proofs.YtipmlcdnfaobiaaGreat
open Go.RowKit

/-- What is not an action's block stays. -/
def KeepA (w w' : World) : Prop := ∀ (b : Nat) (cs : Array Value) (t : TypeId) (r : Nat × Nat), w.heap[b]? = some (.cells cs t r) → t ≠ 42 → w'.heap[b]? = some (.cells cs t r)
theorem keepA_of {w w' : World} {row : Option Nat} (hg : w.grownBy w' row) (hr : ∀ b, row = some b → ∃ cs, w.heap[b]? = some (.cells cs 42 (0, 0))) : KeepA w w' := fun b cs t r hb ht => by
  rw [hg.block b (lt_of_block hb) (fun e => by
    obtain ⟨cs', hc⟩ := hr b e.symm
    exact ne_type hb hc ht rfl)]
  exact hb
theorem own_keepA {w w' : World} {B n : Nat} {e : TypeId} {size : Nat} {v : Value} {xs : List Value} (h : w.ownsRow B e size v n xs) (hk : KeepA w w') (he : e ≠ 42) : w'.ownsRow B e size v n xs := by
  refine ⟨h.1, ?_⟩
  rcases h.2 with q | ⟨g, cp, cur, e1, hB, hh, q⟩
  · exact Or.inl q
  · exact Or.inr ⟨g, cp, cur, e1, hB, hk _ _ _ _ hh he, q⟩
theorem Ported.keepA {w w' : World} {B : Nat} {v : Value} {zs : List (List UInt8)} (h : Ported w B v zs) (hk : KeepA w w') : Ported w' B v zs := by
  obtain ⟨ao, cap, e1, e2, q | ⟨b, e3, e4, cs, e5, e6⟩⟩ := h
  · exact ⟨ao, cap, e1, e2, Or.inl q⟩
  · exact ⟨ao, cap, e1, e2, Or.inr ⟨b, e3, e4, cs, hk _ _ _ _ e5 (by decide), e6⟩⟩
theorem OwnP.keepA {w w' : World} {B : Nat} {v : Value} {qs : List (Raw × Value)} (h : OwnP w B v qs) (hk : KeepA w w') : OwnP w' B v qs := ⟨⟨own_keepA h.own.own hk (by decide), h.own.vals⟩, fun q hq => ⟨(h.prt q hq).1.keepA hk, (h.prt q hq).2⟩⟩
theorem Both.keepA {w0 w w' : World} {tb rb : Nat} {W : Int} {L : List Raw} (h : Both w0 w tb rb W L) (hl : Below w0.heap.size w0 w') (hk : KeepA w w') : Both w0 w' tb rb W L := by
  refine ⟨hl, h.ot, h.orr, ?_, ?_⟩
  · obtain ⟨v, ps, ht, e⟩ := h.fib.ex
    exact ⟨h.fib.base, v, ps, ⟨hk _ _ _ _ ht.blk (by decide), ⟨own_keepA ht.list.own hk (by decide), ht.list.vals⟩, fun q hq => (ht.ports q hq).keepA hk, ht.good⟩, e⟩
  · obtain ⟨v, ps, hB, hd, e⟩ := h.doc.ex
    exact ⟨v, ps, hk _ _ _ _ hB (by decide), ⟨⟨own_keepA hd.own.own hk (by decide), hd.own.vals⟩, fun q hq => ⟨(hd.prt q hq).1.keepA hk, (hd.prt q hq).2⟩⟩, e⟩
abbrev lk2 (W : Int) (L : List Raw) (h : List UInt8) : Int × List (List UInt8) := ((lookR W L h).1, (lookR W L h).2.1)
/-- Where the first loop stands. -/
structure Lp1 (w : World) (Bz : Nat) (tb rb : Nat) (W : Int) (L : List Raw) (va : Value) (qs : List (Raw × Value)) (v : Value) (xs : List (Int × List (List UInt8) × Value)) (hs : List (List UInt8)) (wr : World) : Prop where
  both : Both w wr tb rb W L
  rows : OwnP wr Bz va qs
  bef : BefAt w.heap.size v xs wr
  same : xs.map (fun x => (x.1, x.2.1)) = hs.map (lk2 W L)

/-- Where the second loop stands, and the third. -/
structure Lp2 (w : World) (Bz : Nat) (tb : Nat) (W : Int) (L Lt : List Raw) (D : List Raw) (va : Value) (qs : List (Raw × Value)) (v : Value) (xs : List (Int × List (List UInt8) × Value)) (wr : World) : Prop where
  low : Below w.heap.size w wr
  ot : w.heap.size ≤ tb
  fib : FTab wr w.heap.size tb W Lt
  rows : OwnP wr Bz va qs
  bef : BefAt w.heap.size v xs wr
  mem : ∀ x, x ∈ Lt ↔ x ∈ L ∧ ∀ d ∈ D, keyB x d = false
theorem Lp2.on {w wo w' : World} {Bz tb : Nat} {W : Int} {L Lt D : List Raw} {va v : Value} {qs : List (Raw × Value)} {xs : List (Int × List (List UInt8) × Value)} (h : Lp2 w Bz tb W L Lt D va qs v xs wo) (hb : Below wo.heap.size wo w') : Lp2 w Bz tb W L Lt D va qs v xs w' :=
  ⟨below_2 h.low hb, h.ot, h.fib.on hb, h.rows.on hb, h.bef.on hb, h.mem⟩
theorem Lp2.did {w wo w' : World} {Bz tb : Nat} {W : Int} {L Lt Lu D E : List Raw} {va v : Value} {qs : List (Raw × Value)} {xs : List (Int × List (List UInt8) × Value)} (h : Lp2 w Bz tb W L Lt D va qs v xs wo) (hg : wo.grownBy w' (some tb)) (hF : FTab w' w.heap.size tb W Lu) (hm : ∀ x, x ∈ Lu ↔ x ∈ L ∧ ∀ d ∈ E, keyB x d = false) : Lp2 w Bz tb W L Lu E va qs v xs w' := by
  obtain ⟨cc, hcc⟩ := h.fib.blk
  exact ⟨grown_low h.low hg h.ot, h.ot, hF, h.rows.grew hg hcc, h.bef.grew hg hcc, hm⟩

set_option maxRecDepth 20000 in
set_option maxHeartbeats 4000000 in
theorem fdeads_bad {w : World} {ao bo : Option Addr} {n cap n2 cap2 : Nat} {W : Int} (h : ¬ (1 ≤ W ∧ W ≤ 128)) : Calls Tryz.prog 5 #[.int .i64 W, .slice ao n cap, .slice bo n2 cap2] w fun e w' => e = .returned (.bool true) ∧ Below w.heap.size w w' := by
  have HM := hid (made_bad (w := w) (ao := ao) (n := n) (cap := cap) h)
  have p2 := eqlR_two
  go_enter Tryz.func5, Tryz.ntmps5
  go_wp2_with fail
  refine HM.out.mono ?_
  rintro en w1 ⟨rfl, hb1⟩
  have B1 := hid hb1
  clear hb1
  go_wp2_with (go_at_call 10; refine (fawake _).mono ?_; rintro e wz ⟨rfl, hbz⟩; have BZ := hid (below_2 B1.out hbz); clear hbz)
  go_ret
  exact ⟨rfl, BZ.out⟩

set_option maxRecDepth 20000 in
set_option maxHeartbeats 8000000 in
theorem fdeads_good {w : World} {ao bo : Option Addr} {n cap n2 cap2 : Nat} {W : Int} {cs : List (Int × Raw × Value)} {hs2 : List (List UInt8)} (h : 1 ≤ W ∧ W ≤ 128) (hc : ChIn w ao cs) (hn : cs.length = n) (hnc : n ≤ cap) (hs : ∀ u ∈ cs, Small u.2.1.mat u.2.1.ports) (h63 : n ≤ maxLen)
    (ht : Txs w (.slice bo n2 cap2) hs2) (hhn : hs2.length = n2) (hhl : ∀ x ∈ hs2, x.length ≤ maxLen) (h32 : n2 * 32 ≤ 140737488355328) : Calls Tryz.prog 5 #[.int .i64 W, .slice ao n cap, .slice bo n2 cap2] w fun e w' => e = .returned (.bool true) ∧ Below w.heap.size w w' := by
  have HM := hid (made_good h hc hn hnc hs h63)
  have HG := hid (madeN_good h ((chs cs).take 100))
  have HT := hid ht
  have HHN := hid hhn
  have HHL := hid hhl
  have p2 := eqlR_none
  obtain ⟨L, hL⟩ : ∃ L, L = madeN W ((chs cs).take 100) := ⟨_, rfl⟩
  rw [← hL] at HM HG
  have h263I : (n2 : Int) ≤ 9223372036854775807 := by omega
  clear hc hn hs ht hhn hhl hL
  go_enter Tryz.func5, Tryz.ntmps5
  go_wp2_with fail
  refine HM.out.mono ?_
  rintro en w1 ⟨tb, rb, rfl, h1⟩
  have B1 := hid h1.out
  clear h1
  go_wp2_with (first | (go_at_call 10; refine (fawake _).mono ?_; rintro e wz ⟨rfl, hbz⟩; have BZ := hid (B1.out.on hbz); clear hbz) | fail)
  clear p2 HM B1
  have HD1 := hid (PDead_form BZ.out.fib)
  refine HD1.out.mono ?_
  rintro en w2 ⟨a, dn, c, y, qs, rfl, hdn, O2, V2, K2⟩
  have B2 := hid (BZ.out.on K2.out)
  have HD2 := hid (RDead_form B2.out.doc HG.out)
  have HDN := hid hdn
  clear HD1 K2 BZ hdn
  go_wp2_with fail
  refine HD2.out.mono ?_
  rintro en w3 ⟨b, dn', c', y', qs', rfl, R3, V3, K3⟩
  obtain ⟨hyy, hDD⟩ := V2.out.uniq V3.out
  have B3 := hid (B2.out.on K3.out)
  have O3 := hid (O2.out.on K3.out)
  have hnn : dn' = dn := by
    have e := congrArg List.length hDD
    rw [List.length_map, List.length_map, HDN.out, R3.out.1] at e
    exact e
  rw [hyy, hnn]
  rw [hnn] at R3
  have HSR := hid (fun (X : World) (hX : Below w3.heap.size w3 X) => same_rows (((O3.out.on hX).rowV HDN.out)) (R3.out.on hX) (V2.out.good HG.out) rfl hDD)
  have hd4 : dn ≤ 4096 := by have := (V2.out.good HG.out).few; rw [List.length_map, HDN.out] at this; exact this
  clear HD2 B2 O2 K3 V3 hyy hDD hnn
  have eyy : (y != y) = false := by simp
  go_wp2_with fail
  refine (HSR.out _ (Below.refl _ _)).mono ?_
  rintro en w4 ⟨rfl, hb4⟩
  have HP0 := hid (show Lp1 w wz.heap.size tb rb W L (.slice a dn c) qs (.slice none 0 0) [] (hs2.take 0) w4 from ⟨B3.out.on hb4, O3.out.on hb4, ⟨World.ownsRow_nil _ _ _ _, fun x hx => by cases hx⟩, rfl⟩)
  generalize wz.heap.size = Bz at HP0
  clear hb4 HSR B3 O3 R3 eyy
  obtain ⟨i0, hi, hz0, hz1, hz2⟩ := info_parts Tryz.infoActV
  have HI := hid hi
  have HZ0 := hid hz0
  have HZ1 := hid hz1
  have HZ2 := hid hz2
  clear hi hz0 hz1 hz2
  have HHD := hid (show ∀ j, j < n2 → ∃ hd g o, hs2[j]? = some hd ∧ hd.length ≤ maxLen ∧ bo = some ⟨g, o, none⟩ ∧ ∀ X, Below w.heap.size w X → X.cell? ⟨g, o + j, none⟩ = some (.string (tx hd)) from fun j hj => by
    have hj2 : j < hs2.length := by rw [HHN.out]; exact hj
    obtain ⟨a', c', e, q | ⟨g, o, e2, hg, hcl⟩⟩ := HT.out
    · rw [q] at hj2; simp at hj2
    · injection e with e1 _ _
      refine ⟨hs2[j], g, o, List.getElem?_eq_getElem hj2, HHL.out _ (List.getElem_mem _), by rw [e1, e2], fun X hX => ?_⟩
      rw [hX.cell (by exact hg), hcl j hj2, List.getD_eq_getElem?_getD, List.getElem?_eq_getElem hj2]
      rfl)
  go_wp2_with fail
  go_loopw [14, 15] (fun vb vi wr => ∃ (j : Nat) (xo : Option Addr) (xc : Nat) (xs : List (Int × List (List UInt8) × Value)), j ≤ n2 ∧ vi = .int .i64 j ∧ vb = .slice xo j xc ∧ Hid (xs.length = j) ∧ Hid (Lp1 w Bz tb rb W L (.slice a dn c) qs (.slice xo j xc) xs (hs2.take j) wr)) (fun _ vi _ => n2 - (intOf vi).toNat)
  case atStart => exact ⟨0, none, 0, [], Nat.zero_le _, rfl, rfl, rfl, HP0⟩
  case round =>
    clear HP0
    obtain ⟨j, xo, xc, xs, hj, rfl, rfl, HXL, HA⟩ := hrel
    rename World => wo
    by_cases hlt : j < n2
    · have hjI : (j : Int) < (n2 : Int) := by omega
      have hj0 : (0 : Int) ≤ (j : Int) := by omega
      obtain ⟨hd, g, o, hjd, hlen, rfl, hcell⟩ := HHD.out j hlt
      have c0 := hcell wo HA.out.both.low
      have HJD := hid hjd
      have HM4 := hid (RLookup_any (h := hd) HA.out.both.doc HG.out hlen)
      clear hcell hjd hlen
      go_wp2_with fail
      refine HM4.out.mono ?_
      rintro en w5 ⟨hv5, hb5⟩
      obtain ⟨lk, lp, le, hlr⟩ : ∃ lk lp le, lookR W L hd = (lk, lp, le) := ⟨_, _, _, rfl⟩
      rw [hlr] at hv5
      obtain ⟨a5, n5, c5, rfl, hpo5⟩ := hv5
      have B5 := hid (HA.out.both.on hb5)
      have O5 := hid (HA.out.rows.on hb5)
      have HNX := hid (BefAt.next (w := w) (k := lk) (HA.out.bef.on hb5) HXL.out (Nat.le_refl _) B5.out.low.size hpo5)
      have HS2 := hid (show (xs ++ [(lk, lp, Value.slice a5 n5 c5)]).map (fun x => (x.1, x.2.1)) = (hs2.take (j + 1)).map (lk2 W L) by
        rw [List.map_append, HA.out.same, List.take_add_one, HJD.out, List.map_append]
        show _ = _ ++ [lk2 W L hd]
        unfold lk2
        rw [hlr]
        rfl)
      have HO2 := hid (show ∀ u ∈ ([.int .i64 lk, .slice a5 n5 c5] : List Value), u.oneCell' = true from fun u hu => by
        simp only [List.mem_cons, List.not_mem_nil, or_false] at hu
        rcases hu with rfl | rfl <;> rfl)
      clear hb5 hpo5 hlr c0 HM4
      go_wp2_with (at_builtin; refine wpList_append_own_at _ rfl _ _ 54 rfl w.heap.size 42 i0 _ 2 32 Tryz.underlying54 HI.out HZ0.out HZ1.out HZ2.out rfl (by decide) (.slice xo j xc) j (flatA xs) rfl HNX.out.1 _ 1 1 [.int .i64 lk, .slice a5 n5 c5] rfl rfl HNX.out.2.1 HO2.out (by unfold maxLen; omega) (by omega) HNX.out.2.2.1 ?_; intro v8 w8 hown8 hg8 _ _; obtain ⟨a8, c8, hv8, hB8, hgX, hrX⟩ := HNX.out.2.2.2 v8 w8 hown8 hg8; subst hv8; have HA8 := hid (show Lp1 w Bz tb rb W L (.slice a dn c) qs (.slice a8 (j + 1) c8) _ (hs2.take (j + 1)) w8 from ⟨B5.out.keepA (B5.out.low.grown hgX B5.out.low.size (fun b hb => (hrX b hb).1)) (keepA_of hgX (fun b hb => (hrX b hb).2)), O5.out.keepA (keepA_of hgX (fun b hb => (hrX b hb).2)), hB8, HS2.out⟩); clear hown8 hg8 hB8 hgX hrX)
      go_roundw
      case rel => exact ⟨j + 1, a8, c8, _, by omega, by go_num, rfl, by show _ = _; rw [List.length_append, HXL.out]; rfl, HA8⟩
      case measure => simp [intOf]; omega
    · have hjI : ¬ ((j : Int) < (n2 : Int)) := by omega
      have HSM := hid (show xs.map (fun x => (x.1, x.2.1)) = hs2.map (lk2 W L) by
        have := HA.out.same
        rw [List.take_of_length_le (by rw [HHN.out]; omega)] at this
        exact this)
      have hjn : j = n2 := by omega
      subst hjn
      have HQ0 := hid (show Lp2 w Bz tb W L L ((qs.map Prod.fst).take 0) (.slice a dn c) qs (.slice xo j xc) xs wo from ⟨HA.out.both.low, HA.out.both.ot, HA.out.both.fib, HA.out.rows, HA.out.bef, fun x => ⟨fun q => ⟨q, fun d hd => by cases hd⟩, fun q => q.1⟩⟩)
      have HDG := hid (V2.out.good HG.out)
      have HDD := hid V2.out.dead
      clear HA
      go_wp2_with fail
      go_loopw [18] (fun vi wr => ∃ (t : Nat) (Lt : List Raw), t ≤ dn ∧ vi = .int .i64 t ∧ Hid (Lp2 w Bz tb W L Lt ((qs.map Prod.fst).take t) (.slice a dn c) qs (.slice xo j xc) xs wr)) (fun vi _ => dn - (intOf vi).toNat)
      case atStart => exact ⟨0, L, Nat.zero_le _, rfl, HQ0⟩
      case round =>
        clear HQ0
        obtain ⟨t, Lt, ht, rfl, HQ⟩ := hrel
        rename World => wq
        by_cases htd : t < dn
        · have htI : (t : Int) < (dn : Int) := by omega
          have ht0 : (0 : Int) ≤ (t : Int) := by omega
          obtain ⟨q, hq⟩ : ∃ q, qs[t]? = some q := ⟨qs[t]'(by rw [HDN.out]; exact htd), List.getElem?_eq_getElem _⟩
          have hqm := List.mem_of_getElem? hq
          have HLQ := hid (show (qs.map Prod.fst)[t]? = some q.1 by rw [List.getElem?_map, hq]; rfl)
          obtain ⟨g, rfl⟩ : ∃ g, a = some ⟨g, 0, none⟩ := by
            obtain ⟨lo, lc, e, _, hf⟩ := HQ.out.rows.own.form
            injection e with e1 _ _
            subst e1
            rcases hf with ⟨_, h0⟩ | ⟨g, h1, _⟩
            · rw [h0] at hq; simp at hq
            · exact ⟨g, h1⟩
          obtain ⟨e0, e1, e2, e3⟩ := HQ.out.rows.own.cells hq
          obtain ⟨hpq, hpl⟩ := HQ.out.rows.prt q hqm
          have HDL := hid (show q.1 ∈ L from (deads_sub L).subset (HDD.out _ (List.mem_map_of_mem hqm)))
          obtain ⟨L2, hst, hg2, hm2⟩ := gone_next HG.out HQ.out.fib.good HDL.out (fun x hx => by rw [keyB_comm]; exact (HDG.out.srt.others HLQ.out (keyB_self q.1)).1 x hx) HQ.out.mem
          have HM2 := hid (show ∀ x, x ∈ L2 ↔ x ∈ L ∧ ∀ d ∈ (qs.map Prod.fst).take (t + 1), keyB x d = false by rw [List.take_add_one, HLQ.out]; exact hm2)
          obtain ⟨⟨p, m, k, zs⟩, uv⟩ := q
          simp only at e0 e1 e2 e3 hpq hpl hst
          obtain ⟨uo, uc, huv, -⟩ := id hpq
          obtain ⟨un, hun⟩ : ∃ un, un = zs.length := ⟨_, rfl⟩
          rw [← hun] at huv
          subst huv
          have HST := hid hst
          have HBW := hid (show Below wq.heap.size wq (wq.alloc (cob5 2 p m k (.slice uo un uc))) from (Below.refl _ _).alloc (Nat.le_refl _) _)
          have HDO := hid (Do_any (cap := 1) (n := 1) (HQ.out.on HBW.out).fib (one_view (kd := 2) (p := p) (m := m) (k := k) hpq.txs hpl) rfl (by decide))
          clear hq hqm hpq hpl hst hg2 hm2 hun
          go_wp2_with fail
          refine HDO.out.mono ?_
          rintro en w5 ⟨hg5, hd5⟩
          rw [show chs [(((2 : Int), (⟨p, m, k, zs⟩ : Raw), Value.slice uo un uc) : Int × Raw × Value)] = [(2, ⟨p, m, k, zs⟩)] from rfl, run_one, HST.out] at hd5
          obtain ⟨rfl, HF5⟩ : en = .returned (.tuple #[.int .i64 0, .int .i64 0]) ∧ Hid (FTab w5 w.heap.size tb W L2) := by
            rcases hd5 with ⟨L5, h1, h2, h3⟩ | ⟨i5, er, h1, _⟩
            · injection h1 with h1; subst h1; exact ⟨h2, h3⟩
            · cases h1
          have HQ5 := hid ((HQ.out.on HBW.out).did hg5 HF5.out HM2.out)
          clear hg5 hd5 e0 e1 e2 e3 HDO HF5 HBW
          go_wp2
          go_roundw
          case rel => exact ⟨t + 1, L2, by omega, by go_num, HQ5⟩
          case measure => simp [intOf]; omega
        · have htI : ¬ ((t : Int) < (dn : Int)) := by omega
          have HLK := hid (show ∀ hd, lookR W Lt hd = lookR W L hd from fun hd => look_gone HG.out HQ.out.fib.good (fun d hd' => HDD.out d (List.mem_of_mem_take hd')) HQ.out.mem)
          generalize (qs.map Prod.fst).take t = D at HQ
          go_wp2_with fail
          go_loopw [21] (fun vi wr => ∃ (i : Nat), i ≤ j ∧ vi = .int .i64 i ∧ Hid (Lp2 w Bz tb W L Lt D (.slice a dn c) qs (.slice xo j xc) xs wr)) (fun vi _ => j - (intOf vi).toNat)
          case atStart => exact ⟨0, Nat.zero_le _, rfl, HQ⟩
          case round =>
            clear HQ
            obtain ⟨i, hi, rfl, HQ⟩ := hrel
            rename World => wv
            by_cases hij : i < j
            · have hiI : (i : Int) < (j : Int) := by omega
              have hi0 : (0 : Int) ≤ (i : Int) := by omega
              obtain ⟨hd, g, o, hjd, hlen, rfl, hcell⟩ := HHD.out i hij
              have c0 := hcell wv HQ.out.low
              have HM4 := hid (Lookup_any (h := hd) HQ.out.fib)
              obtain ⟨x, hx⟩ : ∃ x, xs[i]? = some x := ⟨xs[i]'(by rw [HXL.out]; exact hij), List.getElem?_eq_getElem _⟩
              have HXE := hid (show (x.1, x.2.1) = lk2 W L hd by
                have e := congrArg (fun l => l[i]?) HSM.out
                simp only [List.getElem?_map, hx, hjd, Option.map_some] at e
                injection e)
              obtain ⟨gb, xc', hxf⟩ := HQ.out.bef.form HXL.out (by omega)
              have HBF := hid (show ∀ X, Below wv.heap.size wv X → X.cell? ⟨gb, i * 2, none⟩ = some (.int .i64 x.1) ∧ X.cell? ⟨gb, i * 2 + 1, none⟩ = some x.2.2 ∧ Ported X 0 x.2.2 x.2.1 from fun X hX => by
                have hb := HQ.out.bef.on hX
                rw [hxf] at hb
                exact ⟨(hb.cells hx).1, (hb.cells hx).2, hb.prt x (List.mem_of_getElem? hx)⟩)
              have HFW := hid (lookR_few HG.out hd)
              injection hxf with hxf _ hxc
              subst hxf
              subst hxc
              clear hcell hjd hlen hx
              go_wp2_with fail
              refine HM4.out.mono ?_
              rintro en w5 hp5
              have hv5 := hp5.v
              rw [HLK.out hd] at hv5
              obtain ⟨lk, lp, le, hlr⟩ : ∃ lk lp le, lookR W L hd = (lk, lp, le) := ⟨_, _, _, rfl⟩
              unfold lk2 at HXE
              rw [hlr] at hv5 HXE HFW
              obtain ⟨a5, n5, c5, rfl, hpo5⟩ := hv5
              obtain ⟨xk, xp, xv⟩ := x
              obtain ⟨rfl, rfl⟩ : xk = lk ∧ xp = lp := by
                have e := HXE.out
                injection e with e1 e2
                exact ⟨e1, e2⟩
              simp only at HBF HFW hpo5 hp5
              have HB5 := hid hp5.1
              obtain ⟨zo, zc, hxv, -⟩ := (HBF.out wv (Below.refl _ _)).2.2
              obtain ⟨zn, hzn⟩ : ∃ zn, zn = xp.length := ⟨_, rfl⟩
              rw [← hzn] at hxv
              subst hxv
              obtain ⟨X, hX⟩ : ∃ X, X = w5.alloc (aob xk (.slice a5 n5 c5)) := ⟨_, rfl⟩
              obtain ⟨k5, hk5⟩ : ∃ k5, k5 = w5.heap.size := ⟨_, rfl⟩
              have HBX := hid (show Below w5.heap.size w5 X by rw [hX]; exact (Below.refl _ _).alloc (Nat.le_refl _) _)
              have HK5 := hid (show X.heap[k5]? = some (aob xk (.slice a5 n5 c5)) by rw [hX, hk5]; exact new_0 _ _)
              have HCS := hid (show ∀ Y, Below X.heap.size X Y → (Y.cell? ⟨k5, 0, none⟩ = some (.int .i64 xk) ∧ Y.cell? ⟨k5, 1, none⟩ = some (.slice a5 n5 c5) ∧ Y.cell? ⟨gb, i * 2, none⟩ = some (.int .i64 xk) ∧ Y.cell? ⟨gb, i * 2 + 1, none⟩ = some (.slice zo zn zc)) ∧ Txs Y (.slice a5 n5 c5) xp ∧ Txs Y (.slice zo zn zc) xp from fun Y hY => by
                have hXY := below_2 HBX.out hY
                have hVY := below_2 HB5.out hXY
                obtain ⟨q1, q2, q3⟩ := HBF.out Y hVY
                have hk := below_block hY HK5.out (lt_of_block HK5.out)
                exact ⟨⟨by rw [cell_at hk]; rfl, by rw [cell_at hk]; rfl, q1, q2⟩, (hpo5.on hXY).txs, q3.txs⟩)
              have HSA := hid (fun (Y : World) (hY : Below X.heap.size X Y) => Same_actsI (k := xk) (HCS.out Y hY).2.1 (HCS.out Y hY).2.2 (show xp.length ≤ maxLen by have := HFW.out; unfold maxLen; omega))
              have HQX := hid (fun (Y : World) (hY : Below X.heap.size X Y) => HQ.out.on (below_2 HB5.out (below_2 HBX.out hY)))
              have hS0 := (HCS.out X (Below.refl _ _)).1
              clear hp5 hpo5 hlr HXE HM4 c0 hzn HBF HQ
              go_wp2_with fail
              rw [← hX, ← hk5]
              clear hX hk5 HBX HB5 HK5
              go_region_held2 (fun W' => W'.cell? ⟨k5, 0, none⟩ = some (.int .i64 xk) ∧ W'.cell? ⟨k5, 1, none⟩ = some (.slice a5 n5 c5) ∧ W'.cell? ⟨gb, i * 2, none⟩ = some (.int .i64 xk) ∧ W'.cell? ⟨gb, i * 2 + 1, none⟩ = some (.slice zo zn zc)) (first | exact hS0 | exact hS2) (first | (go_at_call 22; refine (HSA.out _ ((Below.refl _ _).drew)).mono ?_; rintro en w6 ⟨rfl, hb6⟩; have HB6 := hid (below_2 ((Below.refl X.heap.size X).drew) hb6); have hS2 := (HCS.out w6 HB6.out).1; clear hb6))
              have HQ6 := hid (HQX.out w6 HB6.out)
              go_wp2
              go_roundw
              case rel => exact ⟨i + 1, by omega, by go_num, HQ6⟩
              case measure => simp [intOf]; omega
            · have hiI : ¬ ((i : Int) < (j : Int)) := by omega
              go_wp2
              go_ret
              exact ⟨rfl, HQ.out.low⟩
theorem fdeads_any {w : World} {ao bo : Option Addr} {n cap n2 cap2 : Nat} {W : Int} {cs : List (Int × Raw × Value)} {hs2 : List (List UInt8)} (hc : ChIn w ao cs) (hn : cs.length = n) (hnc : n ≤ cap) (hs : ∀ u ∈ cs, Small u.2.1.mat u.2.1.ports) (h64 : n * 64 ≤ 140737488355328)
    (ht : Txs w (.slice bo n2 cap2) hs2) (hhn : hs2.length = n2) (hhl : ∀ x ∈ hs2, x.length ≤ maxLen) (h32 : n2 * 32 ≤ 140737488355328) : Calls Tryz.prog 5 #[.int .i64 W, .slice ao n cap, .slice bo n2 cap2] w fun e w' => e = .returned (.bool true) ∧ Below w.heap.size w w' := by
  by_cases h : 1 ≤ W ∧ W ≤ 128
  · exact fdeads_good h hc hn hnc hs (by unfold maxLen; omega) ht hhn hhl h32
  · exact fdeads_bad h
end Go.Proofs.YtipmlcdnfaobiaaGreat
namespace Go.Proofs.YtipmlcdnfaobiaaGreat
open Go.ChangeShapes Go.WideShapes Go.ChangeAt Go.RowKit
open Go.ChangeMaps (open_string shut_string)

theorem each_boundV {H : Type} {P : Program} {t : TypeId} {fs : Array Field} {l : List (TypeId × Nat)} {ds : List (DataW H)} (ht : P.underlying t = some (.struct fs)) (hl : fs.toList.map (fun f => (f.type, f.offset)) = l) (hw : ∀ k ∈ (DataW.agg ds : DataW H).weights P t, k ≤ reachBytes) :
    ∀ (i : Nat) (ty : TypeId) (off : Nat) (d : DataW H), l[i]? = some (ty, off) → ds[i]? = some d → ∀ k ∈ d.weights P ty, k ≤ reachBytes := by
  intro i ty off d hi hd k hk
  apply hw
  simp only [DataW.weights, ht]
  refine DataW.weights_mem_each (j := i) (t := ty) ?_ hd k hk
  rw [← hl, List.getElem?_map, Option.map_eq_some_iff] at hi
  obtain ⟨f, hf, e⟩ := hi
  rw [List.getElem?_map, hf]
  simp only [Prod.mk.injEq] at e
  simp [e.1]
theorem weights_allV {H : Type} {P : Program} {e : TypeId} : ∀ {ds : List (DataW H)} {d : DataW H}, d ∈ ds → ∀ k ∈ d.weights P e, k ∈ DataW.weightsAll P e ds
  | d0 :: ds, d, hd, k, hk => by
    simp only [DataW.weightsAll, List.mem_append]
    rcases List.mem_cons.1 hd with rfl | hd
    · exact Or.inl hk
    · exact Or.inr (weights_allV hd k hk)
theorem slice_boundV {H : Type} {P : Program} {t e : TypeId} {a b : List (DataW H)} (ht : P.underlying t = some (.slice e)) (hw : ∀ k ∈ (DataW.slice a b : DataW H).weights P t, k ≤ reachBytes) : (a.length + b.length) * P.bytesOf e ≤ reachBytes ∧ ∀ d ∈ a, ∀ k ∈ d.weights P e, k ≤ reachBytes := by
  refine ⟨hw _ (by simp [DataW.weights, ht]), fun d hd k hk => hw k ?_⟩
  simp only [DataW.weights, ht, List.mem_cons, List.mem_append]
  exact Or.inr (Or.inl (weights_allV hd k hk))

section
variable {H : Type} {enc : TypeId × Value → H} {w : World} {base : Nat} {spare : Nat → Bool} {held : Bool}

set_option maxRecDepth 100000 in
theorem open_rule_sV {fuel : Nat} {cs : List Value} {x : DataW H × List MemPlace} (h : DataW.trod enc Tryz.prog w base spare held fuel 44 cs = some x) (hw : ∀ k ∈ x.1.weights Tryz.prog 44, k ≤ reachBytes) :
    ∃ (p : Int) (m : ByteArray) (k : Int) (v : Value) (n : Nat) (y : DataW H × List MemPlace), cs = [.int .i64 p, .string m, .int .i64 k, v] ∧ m.size ≤ maxLen ∧ DataW.trod enc Tryz.prog w base spare held n 39 [v] = some y ∧ m.size ≤ reachBytes ∧ ∀ k ∈ y.1.weights Tryz.prog 39, k ≤ reachBytes := by
  obtain ⟨fs, hfs, hl⟩ := struct_of (P := Tryz.prog) (t := 44) (l := [(3, 0), (9, 1), (42, 2)]) (by kernel_rfl)
  obtain ⟨gs, hgs, hm⟩ := struct_of (P := Tryz.prog) (t := 42) (l := [(40, 0), (39, 1)]) (by kernel_rfl)
  obtain ⟨xs, n, _, hxe, hlen, hxl, hf⟩ := DataW.trod_struct hfs h
  have W1 := each_boundV hfs hl (by rw [hxe] at hw; exact hw)
  have hc : Tryz.prog.cellsOf 44 = 4 := by kernel_rfl
  rw [hc] at hlen
  have hsz : fs.size = 3 := by have := congrArg List.length hl; simpa using this
  match cs, hlen with
  | [c0, c1, c2, c3], _ =>
    obtain ⟨f0, e0, t0, o0⟩ := field_of hl (i := 0) rfl
    obtain ⟨f1, e1, t1, o1⟩ := field_of hl (i := 1) rfl
    obtain ⟨f2, e2, t2, o2⟩ := field_of hl (i := 2) rfl
    have g0 := hf 0 f0 e0
    have g1 := hf 1 f1 e1
    have g2 := hf 2 f2 e2
    rw [t0, o0, show Tryz.prog.cellsOf 3 = 1 by kernel_rfl, List.getElem?_eq_getElem (show 0 < xs.length by omega)] at g0
    rw [t1, o1, show Tryz.prog.cellsOf 9 = 1 by kernel_rfl, List.getElem?_eq_getElem (show 1 < xs.length by omega)] at g1
    rw [t2, o2, show Tryz.prog.cellsOf 42 = 2 by kernel_rfl, List.getElem?_eq_getElem (show 2 < xs.length by omega)] at g2
    obtain ⟨p, hp, _, _⟩ := DataW.trod_int Tryz.underlying3 g0
    obtain ⟨m, hm1, hx1, hms⟩ := DataW.trod_string Tryz.underlying9 g1
    obtain ⟨ys, n2, _, hye, _, hyl, hg⟩ := DataW.trod_struct hgs g2
    have W2 := each_boundV hgs hm (by have := W1 2 42 2 xs[2].1 rfl (by rw [List.getElem?_map, List.getElem?_eq_getElem (show 2 < xs.length by omega)]; rfl); rw [hye] at this; exact this)
    have hsz2 : gs.size = 2 := by have := congrArg List.length hm; simpa using this
    obtain ⟨k0, d0, u0, q0⟩ := field_of hm (i := 0) rfl
    obtain ⟨k1, d1, u1, q1⟩ := field_of hm (i := 1) rfl
    have r0 := hg 0 k0 d0
    have r1 := hg 1 k1 d1
    rw [u0, q0, show Tryz.prog.cellsOf 40 = 1 by kernel_rfl, List.getElem?_eq_getElem (show 0 < ys.length by omega)] at r0
    rw [u1, q1, show Tryz.prog.cellsOf 39 = 1 by kernel_rfl, List.getElem?_eq_getElem (show 1 < ys.length by omega)] at r1
    obtain ⟨k, hk, _, _⟩ := DataW.trod_int (k := .i64) (by kernel_rfl) r0
    simp at hp hm1 hk
    subst hp hm1 hk
    refine ⟨p, m, k, c3, n2, _, rfl, hms, by simpa using r1, ?_, ?_⟩
    · have := W1 1 9 1 xs[1].1 rfl (by rw [List.getElem?_map, List.getElem?_eq_getElem (show 1 < xs.length by omega)]; rfl)
      rw [hx1] at this
      have q := this m.data.toList.length (by simp [DataW.weights])
      rw [list_size] at q; exact q
    · exact W2 1 39 1 ys[1].1 rfl (by rw [List.getElem?_map, List.getElem?_eq_getElem (show 1 < ys.length by omega)]; rfl)

/-- Texts that came in. -/
theorem open_texts_sV {fuel : Nat} {v : Value} {x : DataW H × List MemPlace} (h : DataW.trod enc Tryz.prog w base (fun _ => true) held fuel 39 [v] = some x) (hw : ∀ k ∈ x.1.weights Tryz.prog 39, k ≤ reachBytes) : ∃ ps : List (List UInt8), Txs w v ps ∧ (∀ p ∈ ps, p.length ≤ maxLen) ∧ ps.length * 16 ≤ reachBytes ∧ ∀ p ∈ ps, p.length ≤ reachBytes := by
  rcases open_strings Tryz.underlying39 Tryz.underlying9 (by kernel_rfl) h with ⟨hcs, _⟩ | ⟨a, len, cap, ss, hcs, _, hl, hm, hz, hxe, hcell, hws⟩
  · simp only [List.cons.injEq, and_true] at hcs
    exact ⟨[], by rw [hcs]; exact Txs.nil _ _ _, fun p hp => absurd hp (by simp), by simp, fun p hp => absurd hp (by simp)⟩
  · simp only [List.cons.injEq, and_true] at hcs
    simp only [if_true] at hz
    rw [hxe] at hw
    obtain ⟨w1, w2⟩ := slice_boundV Tryz.underlying39 hw
    rw [show Tryz.prog.bytesOf 9 = 16 by kernel_rfl] at w1
    refine ⟨(ss.take len).map (fun s => s.data.toList), ?_, fun p hp => ?_, ?_, fun p hp => ?_⟩
    · have hlen : ((ss.take len).map (fun s => s.data.toList)).length = len := by rw [List.length_map, List.length_take]; omega
      refine ⟨some a, cap, by rw [hlen, hcs], ?_⟩
      by_cases h0 : len = 0
      · exact Or.inl (by rw [h0]; simp)
      · obtain ⟨⟨g, o, rfl⟩, hb⟩ := addr_of5 (hcell 0 (by omega))
        refine Or.inr ⟨g, o, rfl, hb, fun i hi => ?_⟩
        rw [hlen] at hi
        have := hcell i (by omega)
        rw [addr_add5] at this
        rw [this]
        have hi2 : i < ss.length := by omega
        simp [List.getD_eq_getElem?_getD, List.getElem?_map, hi, List.getElem?_eq_getElem hi2]
    · obtain ⟨s, hs, rfl⟩ := List.mem_map.1 hp
      have := hws s (List.mem_of_mem_take hs)
      rw [list_size]; exact this
    · refine Nat.le_trans (Nat.mul_le_mul_right 16 ?_) w1
      simp [strs]
    · obtain ⟨s, hs, rfl⟩ := List.mem_map.1 hp
      exact w2 (.lit (.string s.data.toList)) (List.mem_map.2 ⟨s, hs, rfl⟩) _ (by simp [DataW.weights])


set_option maxRecDepth 100000 in
theorem open_change {fuel : Nat} {cs : List Value} {x : DataW H × List MemPlace} (h : DataW.trod enc Tryz.prog w base spare held fuel 57 cs = some x) (hw : ∀ k ∈ x.1.weights Tryz.prog 57, k ≤ reachBytes) :
    ∃ (kd : Int) (rs : List Value) (n : Nat) (y : DataW H × List MemPlace), cs = .int .i64 kd :: rs ∧ DataW.trod enc Tryz.prog w base spare held n 44 rs = some y ∧ ∀ k ∈ y.1.weights Tryz.prog 44, k ≤ reachBytes := by
  obtain ⟨fs, hfs, hl⟩ := struct_of (P := Tryz.prog) (t := 57) (l := [(55, 0), (44, 1)]) (by kernel_rfl)
  obtain ⟨xs, n, _, hxe, hlen, hxl, hf⟩ := DataW.trod_struct hfs h
  have W1 := each_boundV hfs hl (by rw [hxe] at hw; exact hw)
  have hc : Tryz.prog.cellsOf 57 = 5 := by kernel_rfl
  rw [hc] at hlen
  have hsz : fs.size = 2 := by have := congrArg List.length hl; simpa using this
  match cs, hlen with
  | [c0, c1, c2, c3, c4], _ =>
    obtain ⟨f0, e0, t0, o0⟩ := field_of hl (i := 0) rfl
    obtain ⟨f1, e1, t1, o1⟩ := field_of hl (i := 1) rfl
    have g0 := hf 0 f0 e0
    have g1 := hf 1 f1 e1
    rw [t0, o0, show Tryz.prog.cellsOf 55 = 1 by kernel_rfl, List.getElem?_eq_getElem (show 0 < xs.length by omega)] at g0
    rw [t1, o1, show Tryz.prog.cellsOf 44 = 4 by kernel_rfl, List.getElem?_eq_getElem (show 1 < xs.length by omega)] at g1
    obtain ⟨kd, hk, _, _⟩ := DataW.trod_int (k := .i64) (by kernel_rfl) g0
    simp at hk
    subst hk
    exact ⟨kd, [c1, c2, c3, c4], n, _, rfl, by simpa using g1, W1 1 44 1 xs[1].1 rfl (by rw [List.getElem?_map, List.getElem?_eq_getElem (show 1 < xs.length by omega)]; rfl)⟩

/-- Changes that came in. -/
theorem open_changes {fuel : Nat} {ao : Option Addr} {len cap : Nat} {x : DataW H × List MemPlace} (h : DataW.trod enc Tryz.prog w base (fun _ => true) held fuel 22 [.slice ao len cap] = some x) (hw : ∀ k ∈ x.1.weights Tryz.prog 22, k ≤ reachBytes) : ∃ cs : List (Int × Raw × Value), ChIn w ao cs ∧ cs.length = len ∧ len ≤ cap ∧ (∀ u ∈ cs, Small u.2.1.mat u.2.1.ports) ∧ len * 64 ≤ 140737488355328 := by
  rcases Go.Deep.open_slice (e := 57) Tryz.underlying22 h with ⟨hcs, _⟩ | ⟨a, len', cap', m, n, D, Pl, hcs, _, hl, hm, hmm, hxe, hx⟩
  · simp at hcs
    exact ⟨[], Or.inl rfl, by rw [hcs.2.1]; rfl, by omega, fun q hq => absurd hq (by simp), by omega⟩
  · simp at hcs
    obtain ⟨rfl, rfl, rfl⟩ := hcs
    simp only [if_true] at hmm
    have hc : Tryz.prog.cellsOf 57 = 5 := by kernel_rfl
    by_cases h0 : len = 0
    · exact ⟨[], Or.inl rfl, by rw [h0]; rfl, hl, fun q hq => absurd hq (by simp), by omega⟩
    rw [hxe] at hw
    obtain ⟨w1, w2⟩ := slice_boundV Tryz.underlying22 hw
    rw [show Tryz.prog.bytesOf 57 = 64 by kernel_rfl] at w1
    have each : ∀ i, i < len → ∃ q : Int × Raw × Value, w.cell? (a.add (i * 5)) = some (.int .i64 q.1) ∧ w.cell? ((a.add (i * 5)).add 1) = some (.int .i64 q.2.1.prio) ∧ w.cell? ((a.add (i * 5)).add 2) = some (.string (tx q.2.1.mat)) ∧ w.cell? ((a.add (i * 5)).add 3) = some (.int .i64 q.2.1.kind) ∧ w.cell? ((a.add (i * 5)).add 4) = some q.2.2 ∧ Txs w q.2.2 q.2.1.ports ∧ (∀ p ∈ q.2.1.ports, p.length ≤ maxLen) ∧ Small q.2.1.mat q.2.1.ports := by
      intro i hi
      obtain ⟨cs', h1, h2⟩ := hx i (by omega)
      rw [hc] at h1
      obtain ⟨_, _, hcell⟩ := World.cells?_some h1
      obtain ⟨kd, rs, n0, y0, rfl, hr, hb0⟩ := open_change h2 (w2 (D i) (List.mem_map.2 ⟨i, List.mem_range.2 hi, rfl⟩))
      obtain ⟨p, m', k, v, n', y, rfl, hms, hv, hb1, hb2⟩ := open_rule_sV hr hb0
      obtain ⟨zs, hz1, hz2, hz3, hz4⟩ := open_texts_sV hv hb2
      have c0 := hcell 0 (by omega)
      have c1 := hcell 1 (by omega)
      have c2 := hcell 2 (by omega)
      have c3 := hcell 3 (by omega)
      have c4 := hcell 4 (by omega)
      have e0 : (a.add (i * 5)).add 0 = a.add (i * 5) := by unfold Addr.add; simp
      rw [e0] at c0
      exact ⟨(kd, ⟨p, m'.data.toList, k, zs⟩, v), c0, c1, c2, c3, c4, hz1, hz2, by rw [list_size]; exact Nat.le_trans hb1 (by decide), Nat.le_trans hz3 (by decide), fun z hz => Nat.le_trans (hz4 z hz) (by decide)⟩
    have : Inhabited (Int × Raw × Value) := ⟨(0, ⟨0, [], 0, []⟩, .bool false)⟩
    obtain ⟨q, hq⟩ := Go.Deep.choose_lt each
    obtain ⟨⟨g, o, rfl⟩, hb⟩ := addr_of5 (v := .int .i64 (q 0).1) (by have := (hq 0 (by omega)).1; rw [Nat.zero_mul] at this; exact this)
    refine ⟨(List.range len).map q, Or.inr ⟨g, o, rfl, hb, fun i r hr => ?_, fun r hr => ?_⟩, by simp, hl, fun r hr => ?_, ?_⟩
    · rw [List.getElem?_map, Option.map_eq_some_iff] at hr
      obtain ⟨i', hi', rfl⟩ := hr
      obtain ⟨hi, rfl⟩ := List.getElem?_eq_some_iff.1 hi'
      simp only [List.length_range] at hi
      simp only [List.getElem_range]
      obtain ⟨c0, c1, c2, c3, c4, _, _⟩ := hq i hi
      rw [addr_add5] at c0 c1 c2 c3 c4
      rw [addr_add5] at c1 c2 c3 c4
      exact ⟨c0, c1, c2, c3, c4⟩
    · obtain ⟨i, hi, rfl⟩ := List.mem_map.1 hr
      have := hq i (List.mem_range.1 hi)
      exact ⟨this.2.2.2.2.2.1, this.2.2.2.2.2.2.1⟩
    · obtain ⟨i, hi, rfl⟩ := List.mem_map.1 hr
      exact (hq i (List.mem_range.1 hi)).2.2.2.2.2.2.2
    · have e : ((List.range len).map D).length = len := by simp
      have : len * 64 ≤ reachBytes := Nat.le_trans (Nat.mul_le_mul_right 64 (by rw [e]; omega)) w1
      exact Nat.le_trans this (by decide)
end
end Go.Proofs.YtipmlcdnfaobiaaGreat
namespace Go.Proofs.YtipmlcdnfaobiaaGreat
open Go.ChangeShapes Go.WideShapes Go.ChangeAt Go.RowKit

theorem VCDed.own : ownKnob Tryz.prog.godebug = none := by kernel_rfl
theorem VCDed.laidOut : laidOutB Tryz.prog = true := by kernel_rfl
theorem VCDed.args {v0 v1 v2 : Value} {args : Array Value} {l0 l1 : List Value} (h0 : args.toList = v0 :: l0) (h1 : l0 = v1 :: l1) (h2 : l1 = v2 :: []) : args = #[v0, v1, v2] := by
  subst h1 h2
  obtain ⟨a⟩ := args
  simp only at h0
  rw [h0]

theorem VCDed.bulk_one {H : Type} (d : DataW H) : 1 ≤ Rows.uptoBulk d := by cases d <;> first | (rename_i l; cases l <;> simp [Rows.uptoBulk]) | simp [Rows.uptoBulk]
theorem VCDed.bulk_len {H : Type} (l : List (DataW H)) : l.length ≤ Rows.uptoBulkAll l := by
  induction l with
  | nil => simp
  | cons d l ih =>
    rw [Rows.uptoBulkAll, List.length_cons]
    have := VCDed.bulk_one d
    omega
theorem VCDed.bulk_texts {H : Type} {enc : TypeId × Value → H} {w : World} {base : Nat} {held : Bool} {fuel : Nat} {ao : Option Addr} {n c : Nat} {x : DataW H × List MemPlace} (h : DataW.trod enc Tryz.prog w base (fun _ => true) held fuel 39 [.slice ao n c] = some x) : n ≤ Rows.uptoBulk x.1 := by
  rcases open_strings Tryz.underlying39 Tryz.underlying9 (by kernel_rfl) h with ⟨hcs, _⟩ | ⟨a, len, cap, ss, hcs, _, hl, hm, hz, hxe, _⟩
  · simp only [List.cons.injEq, and_true] at hcs
    injection hcs with _ h2 _
    omega
  · simp only [List.cons.injEq, and_true] at hcs
    injection hcs with _ h2 _
    simp only [if_true] at hz
    rw [hxe, Rows.uptoBulk]
    have := VCDed.bulk_len (H := H) (strs (ss.take len))
    have e : (strs (H := H) (ss.take len)).length = len := by simp [strs, hz]; omega
    rw [e] at this
    omega
/-- A narrowed row, with the reach that the form hands on. -/
theorem VCDed.of_cond {H : Type} {enc : TypeId × Value → H} {a : Assume} {C : Checked} {os : Os} {f : FuncId} {fn : Func} {s : OpenSpec} {k : (H : Type) → List (DataW H) → Bool} (hk : s.cond = some k) {F : Stop.Interp} {conds : List PathCond} {apart fresh handsOn again : Bool}
    (own : ownKnob C.prog.godebug = none) (started : os.Started) (noInit : C.prog.inits.idxOf? f = none) (hfn : C.prog.funcs[f]? = some fn)
    (witness : ∃ (w : World) (tape : Tape) (i : Input), w.os = os ∧ (w.forCall tape i).Shaped C.prog ∧ i.vars = [] ∧ Input.okWide C.prog (w.forCall tape i) .any w.heap.size f i ∧
      s.pre6 enc C.prog fn conds apart (w.forCall tape i).memory i.args ∧ a.holds C.prog (lone (Frame.enter C.prog f i.args .normal) [] (w.forCall tape i)))
    (contract : ∀ (W : World) (base : Nat) (args : Array Value) (ds gs : List (DataW H)) (before : List MemPlace),
      (∀ (j : Nat) t v, fn.params[j]? = some t → args[j]? = some v → Value.okWide C.prog W .any base t v) →
      DataW.Whole enc C.prog fn.params.toList s.vars apart W args.toList ds gs before →
      conds.all (PathCond.test C.prog ⟨fn.params.toList, ds, s.bare.plain.varTypes C.prog, gs⟩) = true → k H (ds ++ gs) = true →
      (DataW.weightsEach C.prog (fn.params.toList ++ s.bare.plain.varTypes C.prog) (ds ++ gs)).all (· ≤ reachBytes) = true →
      a.holds C.prog (lone (Frame.enter C.prog f args .normal) [] W) →
      Calls C.prog f args W fun e W' => ∃ v, e = .returned v ∧ (s.at F).post enc C.prog fn apart fresh handsOn again W args v W') :
    ReturnsInHanded a C os f .any (s.pre6 enc C.prog fn conds apart) ((s.at F).post enc C.prog fn apart fresh handsOn again) := by
  refine returnsInHanded_of_calls own started noInit witness ?_
  intro w tape i _ _ _ hok hpre hholds
  obtain ⟨_, _, _, fn', hfn', _, _, _, _, hval⟩ := hok
  have e : fn' = fn := Option.some.inj (hfn'.symm.trans hfn)
  subst e
  obtain ⟨ds, gs, before, hw, hc, hkk⟩ := (OpenSpec.pre_some hk conds apart _ _).1 hpre.1
  have hw' := DataW.Whole.of_heap (w' := w.forCall tape i) (by rfl) hw
  refine (contract (w.forCall tape i) w.heap.size i.args ds gs before hval hw' hc hkk (hpre.2.weights hw) hholds).mono fun e W' ⟨v, he, hp⟩ => ?_
  subst he
  exact ChangeSpec.post_blind hp

set_option maxRecDepth 100000 in
theorem VCDed.lifted (os : Os) (started : os.Started) (H : Type) (enc : TypeId × Value → H) (F : Stop.Interp) :
    ReturnsInHanded {} Tryz.checked os 5 .any ((Rows.OpenSpec.upto Rows.fibDeadsSpec).pre6 enc Tryz.prog Tryz.f5 Rows.fibDeadsUptoRow.domain false) (((Rows.OpenSpec.upto Rows.fibDeadsSpec).at F).post enc Tryz.prog Tryz.f5 false true false false) := by
  refine VCDed.of_cond (C := Tryz.checked) (s := Rows.OpenSpec.upto Rows.fibDeadsSpec) (k := Rows.uptoSmall) rfl VCDed.own started (by kernel_rfl) Tryz.func5
    (OpenSpec.witness (enc := enc) (C := Tryz.checked) (s := Rows.OpenSpec.upto Rows.fibDeadsSpec) (k := Rows.uptoSmall) rfl false ⟨#[], #[.int .i64 0, .slice none 0 0, .slice none 0 0], []⟩ 8 (by kernel_rfl) (by kernel_rfl) (by kernel_rfl)
      (x := ([.lit (.int .i64 0), .nil, .nil], [], [])) (by kernel_rfl) rfl rfl) ?_
  intro W base args ds gs before hval0 hW hcnd hkk hsz _
  have hval : ∀ (j : Nat) t v, Tryz.f5.params[j]? = some t → args[j]? = some v → Value.okWide Tryz.prog W .any base t v := hval0
  have hW' := hW
  obtain ⟨p, q, hA0, hV, rfl, hfz, hnd⟩ := hW
  have hA : DataW.TrodAll enc Tryz.prog W 0 (fun _ => true) true Tryz.f5.params.toList args.toList ds p := hA0
  rw [Tryz.params5] at hA hval
  obtain ⟨v0, vs0, d0, ds0, p0, q0, hargs0, rfl, rfl, h0, r0⟩ := trodAll_cons hA
  obtain ⟨v1, vs1, d1, ds1, p1, q1, hargs1, rfl, rfl, h1, r1⟩ := trodAll_cons r0
  obtain ⟨v2, vs2, d2, ds2, p2, q2, hargs2, rfl, rfl, h2, r2⟩ := trodAll_cons r1
  obtain ⟨rfl, rfl, rfl⟩ := trodAll_nil r2
  obtain rfl := VCDed.args hargs0 hargs1 hargs2
  obtain ⟨rfl, rfl⟩ := trodVars_none hV
  obtain ⟨a0, rfl, rfl, rfl, w0⟩ := open_int Tryz.underlying3 (hval 0 3 v0 rfl rfl) h0
  obtain ⟨a1, len1, cap1, rfl⟩ := okWide_slice Tryz.underlying22 (hval 1 22 v1 rfl rfl)
  have k1 := h1
  have lt1 : ∀ x ∈ p1, x.block < W.heap.size := by obtain ⟨m, hm⟩ := k1; exact DataW.trod_lt m _ _ _ hm
  have hwt1 : ∀ k ∈ d1.weights Tryz.prog 22, k ≤ reachBytes := fun k hk => of_decide_eq_true (List.all_eq_true.1 hsz k (DataW.weights_mem_each (j := 1) (t := 22) (d := d1) (by rw [Tryz.params5]; rfl) rfl k hk))
  obtain ⟨cs1, hc1, hcl1, hcc1, hcs1, hc641⟩ : ∃ cs : List (Int × Raw × Value), ChIn W a1 cs ∧ cs.length = len1 ∧ len1 ≤ cap1 ∧ (∀ u ∈ cs, Small u.2.1.mat u.2.1.ports) ∧ len1 * 64 ≤ 140737488355328 := by
    obtain ⟨fuel, hf⟩ := h1
    exact open_changes hf hwt1
  obtain ⟨a2, len2, cap2, rfl⟩ := okWide_slice Tryz.underlying39 (hval 2 39 v2 rfl rfl)
  have k2 := h2
  have lt2 : ∀ x ∈ p2, x.block < W.heap.size := by obtain ⟨m, hm⟩ := k2; exact DataW.trod_lt m _ _ _ hm
  have hwt2 : ∀ k ∈ d2.weights Tryz.prog 39, k ≤ reachBytes := fun k hk => of_decide_eq_true (List.all_eq_true.1 hsz k (DataW.weights_mem_each (j := 2) (t := 39) (d := d2) (by rw [Tryz.params5]; rfl) rfl k hk))
  obtain ⟨ts2, ht2, hl2, hm2, hs2⟩ : ∃ ts : List (List UInt8), Txs W (.slice a2 len2 cap2) ts ∧ ts.length = len2 ∧ (∀ x ∈ ts, x.length ≤ maxLen) ∧ len2 * 16 ≤ 140737488355328 := by
    obtain ⟨fuel, hf⟩ := h2
    obtain ⟨ts, g1, g2, g3, g4⟩ := open_texts_sV hf hwt2
    have e : ts.length = len2 := by
      obtain ⟨ao, c, e, _⟩ := g1
      injection e with _ e2 _
      exact e2.symm
    exact ⟨ts, g1, e, g2, by rw [← e]; exact Nat.le_trans g3 (by decide)⟩
  have h32 : len2 * 32 ≤ 140737488355328 := by
    obtain ⟨fuel, hf⟩ := k2
    have h1 : len2 ≤ Rows.uptoBulk d2 := VCDed.bulk_texts hf
    have h2 := of_decide_eq_true (show decide (Rows.uptoBulkAll _ ≤ 1048576) = true from hkk)
    simp only [List.append_nil, Rows.uptoBulkAll] at h2
    omega
  simp only [List.append_nil] at hW'
  clear hA0 hval0
  refine (fdeads_any hc1 hcl1 hcc1 hcs1 hc641 ht2 hl2 hm2 h32).mono fun e W' ⟨he, bel⟩ => ?_
  subst he
  exact ⟨_, rfl, _, _, _, [], _, [], hW', trodAll_mk1 (shut_bool Tryz.underlying4 _), (trodAll_cons_mk (shut_int Tryz.underlying3 w0) (trodAll_cons_mk (Below.trod VCDed.laidOut (by kernel_rfl) (of_decide_eq_true (by kernel_rfl)) k1 bel lt1) (trodAll_cons_mk (Below.trod VCDed.laidOut (by kernel_rfl) (of_decide_eq_true (by kernel_rfl)) k2 bel lt2) trodAll_mk0))), rfl, bel.frame _, fun h => by cases h⟩

theorem FibDeads_holds : Rows.FibDeadsUptoSaid :=
  OpenClaim.holds_of_cond 5 Tryz.f5 rfl rfl rfl rfl rfl rfl rfl ⟨rfl, rfl, rfl, rfl, rfl⟩ rfl rfl rfl rfl rfl (by kernel_rfl) Tryz.func5 (by kernel_rfl)
    (of_decide_eq_true (by kernel_rfl)) (by unfold Func.isWrapper; first | (rw [if_pos (by decide +kernel)]; kernel_rfl) | (rw [if_neg (by decide +kernel)]; exact ⟨rfl, rfl⟩))
    (fun os started H enc _ F => VCDed.lifted os started H enc F)
#print axioms FibDeads_holds
end Go.Proofs.YtipmlcdnfaobiaaGreat
