/-
  together: the iterator over two rising rows.
-/
import Derived.Test.YtibbbjikehkbmabDoorGNextA
namespace Go.Proofs.YtibbbjikehkbmabDoor.Ve
open Go.RowKit Go.Shelf
attribute [local go_sem] Oper.semAt_some

abbrev cmpV : Value := .func (.func 33) #[] #[]
theorem together_any (va vb : Value) (ao bo : Option Addr) (n m ca cb : Nat) (ha : va = .slice ao n ca) (hb : vb = .slice bo m cb) (w : World) : Calls Tryd.prog 48 #[va, vb, cmpV] w fun e w' =>
    e = .returned (.func (.func 61) #[] #[.pointer (some ⟨w.heap.size, 0, none⟩), .pointer (some ⟨w.heap.size + 1, 0, none⟩), .pointer (some ⟨w.heap.size + 1 + 1, 0, none⟩)]) ∧
    w' = ((w.alloc (.cells #[va] 22)).alloc (.cells #[vb] 22)).alloc (.cells #[cmpV] 65) := by
  subst ha hb
  go_enter Tryd.func48, Tryd.ntmps48
  go_wp2
  go_ret
  exact ⟨rfl, rfl⟩
/-- What a round hands over: of either row one thing or none. -/
abbrev It (w0 : World) : Type := { it : Value × Value × Option St × Option St // VecV w0 it.1 it.2.2.1.toList ∧ VecV w0 it.2.1 it.2.2.2.toList ∧ it.2.2 ≠ (none, none) }
theorem some_step {la lb : List St} {f h : Nat} (h1 : f ≤ la.length) (h2 : h ≤ lb.length) (h3 : 1 ≤ f + h) : ((la.take f).head?, (lb.take h).head?) ≠ (none, none) := by
  intro e
  have e1 : (la.take f).head? = none := congrArg Prod.fst e
  have e2 : (lb.take h).head? = none := congrArg Prod.snd e
  rw [List.head?_eq_none_iff] at e1 e2
  have l1 := congrArg List.length e1
  have l2 := congrArg List.length e2
  rw [List.length_take, List.length_nil] at l1 l2
  omega
def pairs {w0 : World} (xs : List (It w0)) : List (Option St × Option St) := xs.map fun x => x.1.2.2
theorem pairs_snoc {w0 : World} (xs : List (It w0)) (x : It w0) : pairs (xs ++ [x]) = pairs xs ++ [x.1.2.2] := by simp [pairs]
/-- What a round keeps. -/
def KIt (n0 ba bb bc : Nat) (A B : World) : Prop := Below n0 A B ∧ ∀ b, b = ba ∨ b = bb ∨ b = bc → ∀ ty v, Boxed A b ty v → Boxed B b ty v
theorem KIt.trans {n0 ba bb bc : Nat} {A B C : World} (h : KIt n0 ba bb bc A B) (k : KIt n0 ba bb bc B C) : KIt n0 ba bb bc A C := ⟨h.1.trans k.1, fun b hb ty v hv => k.2 b hb ty v (h.2 b hb ty v hv)⟩
theorem kIt_b {n0 ba bb bc : Nat} (W : World) (l : Nat) (o o' : Obj) (hn : n0 ≤ l) (h : W.heap[l]? = some o) (hc : o.isCells = false) : KIt n0 ba bb bc W (W.putObj l o') :=
  ⟨(Below.refl n0 W).grown (grownBy_putObj' W l o') (by have := lt_of_block h; omega) (fun k e => by cases e; exact hn), fun b _ ty v hv =>
    hv.kept (grownBy_putObj' W l o') (fun e => by
      obtain rfl : b = l := by simpa using e
      rw [show W.heap[b]? = _ from hv] at h
      cases h
      cases hc)⟩
theorem two_endsO {e : Ending} {p q : Prop} (h : (e = .returned (.bool true) ∧ p) ∨ (e = .returned (.bool false) ∧ q)) : ∃ b, e = .returned (.bool b) ∧ Hid ((b = true ∧ p) ∨ (b = false ∧ q)) := by
  rcases h with ⟨h, hp⟩ | ⟨h, hq⟩
  · exact ⟨true, h, Or.inl ⟨rfl, hp⟩⟩
  · exact ⟨false, h, Or.inr ⟨rfl, hq⟩⟩
theorem boxed_below {w w' : World} {b : Nat} {ty : TypeId} {v : Value} (h : Boxed w b ty v) (hb : Below w.heap.size w w') : Boxed w' b ty v := (hb.block b h.lt).trans h
/-- How long the row in a box is. -/
def boxLen (w : World) (b : Nat) : Nat := match w.cell? ⟨b, 0, none⟩ with | some (.slice _ n _) => n | _ => 0
theorem boxLen_of {w : World} {b n c : Nat} {ty : TypeId} {a : Option Addr} (h : Boxed w b ty (.slice a n c)) : boxLen w b = n := by unfold boxLen; rw [h.cell]
/-- Where the iterator stands. -/
structure TogI (w0 : World) (a b : List St) (ba bb bc : Nat) (J : List (It w0) → World → Prop) (pre : List (It w0)) (la lb : List St) (va vb : Value) (wr : World) : Prop where
  inv : J pre wr
  low : Below w0.heap.size w0 wr
  ra : VecV w0 va la
  rb : VecV w0 vb lb
  xa : Boxed wr ba 22 va
  xb : Boxed wr bb 22 vb
  xc : Boxed wr bc 65 cmpV
  all : pairs pre ++ stepsV la lb = stepsV a b
  lens : la.length ≤ 256 ∧ lb.length ≤ 256

theorem TogI.next {w0 w3 : World} {a b la lb : List St} {ba bb bc f h : Nat} {J : List (It w0) → World → Prop} {pre : List (It w0)} {X : It w0} {va vb va' vb' : Value} (bJ : Bears (fun q => q = ba ∨ q = bb) J) (n0 : w0.heap.size ≤ ba ∧ w0.heap.size ≤ bb ∧ ba ≠ bb ∧ ba ≠ bc ∧ bb ≠ bc)
    (hj : J (pre ++ [X]) w3) (low : Below w0.heap.size w0 w3) (xa : Boxed w3 ba 22 va) (xb : Boxed w3 bb 22 vb) (xc : Boxed w3 bc 65 cmpV) (hX : X.1.2.2 = ((la.take f).head?, (lb.take h).head?)) (ra : VecV w0 va' (la.drop f)) (rb : VecV w0 vb' (lb.drop h))
    (hst : pairs pre ++ (((la.take f).head?, (lb.take h).head?) :: stepsV (la.drop f) (lb.drop h)) = stepsV a b) (hl : (la.drop f).length ≤ 256 ∧ (lb.drop h).length ≤ 256) :
    TogI w0 a b ba bb bc J (pre ++ [X]) (la.drop f) (lb.drop h) va' vb' ((w3.setCell ⟨ba, 0, none⟩ va').setCell ⟨bb, 0, none⟩ vb').drew ∧ TogI w0 a b ba bb bc J (pre ++ [X]) (la.drop f) (lb.drop h) va' vb' ((w3.setCell ⟨bb, 0, none⟩ vb').setCell ⟨ba, 0, none⟩ va').drew := by
  have hd : J (pre ++ [X]) w3.drew := bJ _ _ _ hj (steps_none ⟨rfl, rfl, rfl, Nat.le_refl _, fun _ _ _ => rfl⟩)
  have lowd : Below w0.heap.size w0 w3.drew := low.trans (Below.refl w0.heap.size w3).drew
  have xa : Boxed w3.drew ba 22 va := xa
  have xb : Boxed w3.drew bb 22 vb := xb
  have xc : Boxed w3.drew bc 65 cmpV := xc
  have hall : pairs (pre ++ [X]) ++ stepsV (la.drop f) (lb.drop h) = stepsV a b := by
    rw [pairs_snoc, hX, List.append_assoc]; exact hst
  obtain ⟨p1, p2, p3, p4, p5⟩ := n0
  constructor
  · exact ⟨bJ _ _ _ (bJ _ _ _ hd (steps_set _ (Or.inl rfl))) (steps_set _ (Or.inr rfl)), (lowd.setCell (p := ⟨ba, 0, none⟩) p1 _).setCell (p := ⟨bb, 0, none⟩) p2 _, ra, rb, (xa.set _).other p3 _, (xb.other (fun e => p3 e.symm) _).set _, (xc.other (fun e => p4 e.symm) _).other (fun e => p5 e.symm) _, hall, hl⟩
  · exact ⟨bJ _ _ _ (bJ _ _ _ hd (steps_set _ (Or.inr rfl))) (steps_set _ (Or.inl rfl)), (lowd.setCell (p := ⟨bb, 0, none⟩) p2 _).setCell (p := ⟨ba, 0, none⟩) p1 _, ra, rb, (xa.other p3 _).set _, (xb.set _).other (fun e => p3 e.symm) _, (xc.other (fun e => p5 e.symm) _).other (fun e => p4 e.symm) _, hall, hl⟩

set_option maxRecDepth 100000 in
set_option maxHeartbeats 2000000 in
theorem tog_stops {nn : Nat} (hn : 2 ≤ nn) {w0 w : World} {a b : List St} {va vb : Value} {ba bb bc : Nat} (hw : Below w0.heap.size w0 w) (ha : VecV w0 va a) (hb : VecV w0 vb b) (la : a.length ≤ 256) (lb : b.length ≤ 256)
    (xa : Boxed w ba 22 va) (xb : Boxed w bb 22 vb) (xc : Boxed w bc 65 cmpV) (n0 : w0.heap.size ≤ ba ∧ w0.heap.size ≤ bb ∧ ba ≠ bb ∧ ba ≠ bc ∧ bb ≠ bc) :
    SeqOwn (fun q => q = ba ∨ q = bb) nn Tryd.prog 61 #[.pointer (some ⟨ba, 0, none⟩), .pointer (some ⟨bb, 0, none⟩), .pointer (some ⟨bc, 0, none⟩)] (fun x : It w0 => #[x.1.1, x.1.2.1]) (KIt w0.heap.size ba bb bc)
      (fun xs => pairs xs = stepsV a b) (fun pre => pairs pre <+: stepsV a b) (a.length + b.length) w := fun l J Jx W hW bJ bJx hY h0 => by
  have HI0 := hid (show TogI w0 a b ba bb bc J [] a b va vb W from ⟨h0, hw.trans (hW.mono hw.size), ha, hb, boxed_below xa hW, boxed_below xb hW, boxed_below xc hW, rfl, la, lb⟩)
  have HBJ := hid bJ
  have HBX := hid bJx
  have HY := hid hY
  obtain ⟨a0, c0, rfl, -⟩ := ha
  obtain ⟨b0, d0, rfl, -⟩ := hb
  have hnn1 : 1 ≤ nn := by omega
  clear h0 bJ bJx hY xa xb xc hW hw
  refine callsIn_of_wp Tryd.func61 rfl trivial ?_ rfl
  simp only [Tryd.ntmps61, List.size_toArray, List.length_cons, List.length_nil, Nat.reduceAdd, Nat.reduceSub, Array.replicate_succ, Array.replicate_zero, List.push_toArray, List.append_toArray, List.nil_append, List.cons_append]
  gi_wp2
  gi_loopw [] (fun wr => ∃ (pre : List (It w0)) (la lb : List St) (ao bo : Option Addr) (n m ca cb : Nat), Hid (n = la.length ∧ m = lb.length) ∧ Hid (TogI w0 a b ba bb bc J pre la lb (.slice ao n ca) (.slice bo m cb) wr)) (fun wr => boxLen wr ba + boxLen wr bb)
  case atStart => exact ⟨[], a, b, _, _, _, _, _, _, ⟨rfl, rfl⟩, HI0.out⟩
  case round =>
    obtain ⟨pre, la, lb, ao, bo, n, m, ca, cb, HNM, HI⟩ := hrel
    have cA := HI.out.xa.cell
    have cB := HI.out.xb.cell
    have cC := HI.out.xc.cell
    by_cases hz : n = 0 ∧ m = 0
    · obtain ⟨rfl, rfl⟩ := hz
      have hla : la = [] := List.eq_nil_of_length_eq_zero HNM.out.1.symm
      have hlb : lb = [] := List.eq_nil_of_length_eq_zero HNM.out.2.symm
      have HS := hid (show pairs pre = stepsV a b by
        have := HI.out.all
        rw [hla, hlb, stepsV_nil, List.append_nil] at this
        exact this)
      clear hla hlb
      gi_wp2
      go_end0
      exact ⟨⟨_, rfl⟩, .inl ⟨pre, HS.out, HI.out.inv⟩⟩
    · obtain ⟨f, hf⟩ : ∃ f, f = (nxt la lb).1 := ⟨_, rfl⟩
      obtain ⟨h, hh⟩ : ∃ h, h = (nxt la lb).2 := ⟨_, rfl⟩
      have hne : ¬ (la = [] ∧ lb = []) := fun q => hz ⟨by rw [HNM.out.1, q.1]; rfl, by rw [HNM.out.2, q.2]; rfl⟩
      obtain ⟨q1, q2, q3, q4, q5⟩ := nxt_le hne
      have hst := stepsV_next hne
      rw [← hf, ← hh] at hst
      rw [← hf] at q1 q3 q4
      rw [← hh] at q2 q3 q5
      have HNX := hid (next_any (w := wr) (HI.out.ra.below HI.out.low) (HI.out.rb.below HI.out.low) HI.out.lens.1 HI.out.lens.2)
      rw [← hf, ← hh] at HNX
      obtain ⟨ta, tca, hta, vta⟩ := cut_take HI.out.ra q1
      obtain ⟨tb, tcb, htb, vtb⟩ := cut_take HI.out.rb q2
      obtain ⟨da, dca, hda, vda⟩ := cut_drop HI.out.ra q1
      obtain ⟨db, dcb, hdb, vdb⟩ := cut_drop HI.out.rb q2
      obtain ⟨n1, hn1⟩ : ∃ n1, n1 = la.length - f := ⟨_, rfl⟩
      obtain ⟨m1, hm1⟩ : ∃ m1, m1 = lb.length - h := ⟨_, rfl⟩
      rw [← hn1] at hda vda
      rw [← hm1] at hdb vdb
      have HL := hid (show n1 = (la.drop f).length ∧ m1 = (lb.drop h).length by rw [List.length_drop, List.length_drop]; exact ⟨hn1, hm1⟩)
      have HDN := hid (show n1 + m1 < n + m by have := HNM.out; omega)
      have HVA := hid (show VecV w0 (.slice ta f tca) (la.take f).head?.toList by rw [head_list q4]; exact vta)
      have HVB := hid (show VecV w0 (.slice tb h tcb) (lb.take h).head?.toList by rw [head_list q5]; exact vtb)
      have HSS := hid (some_step q1 q2 q3)
      have HDA := hid vda
      have HDB := hid vdb
      have HST := hid (show pairs pre ++ (((la.take f).head?, (lb.take h).head?) :: stepsV (la.drop f) (lb.drop h)) = stepsV a b by rw [← hst]; exact HI.out.all)
      have hlen : pre.length < a.length + b.length := by
        have := congrArg List.length HST.out
        rw [List.length_append, List.length_cons, pairs, List.length_map] at this
        have := stepsV_len (a := a) (b := b)
        omega
      have HLEN := hid hlen
      have HDR := hid (show (la.drop f).length ≤ 256 ∧ (lb.drop h).length ≤ 256 by rw [List.length_drop, List.length_drop]; have := HI.out.lens; omega)
      have hab : ba ≠ bb := n0.2.2.1
      have hmx : Tryd.prog.follows .mixedOrders = true := by kernel_rfl
      have hd1 : 1 ≤ nn - 1 := by omega
      clear hf hh hne hst q1 q2 q3 q4 q5 vta vtb vda vdb hn1 hm1 hlen
      by_cases hn0 : 0 < n
      · have hn0I : (0 : Int) < (n : Int) := by omega
        gi_wp2_with (refine ⟨trivial, ?_⟩; gi_at_call 62; refine (callsIn_wide.2 HNX.out).mono ?_; rintro e w2 ⟨rfl, hb2⟩)

        have HB2 := hid hb2
        have xa2 := boxed_below HI.out.xa hb2
        have xb2 := boxed_below HI.out.xb hb2
        have xc2 := boxed_below HI.out.xc hb2
        have hJ2 : J pre w2.drew := HBJ.out _ _ _ (HBJ.out _ _ _ HI.out.inv (steps_below hb2)) (steps_none ⟨rfl, rfl, rfl, Nat.le_refl _, fun _ _ _ => rfl⟩)
        have HLOW2 := hid (HI.out.low.trans (hb2.mono HI.out.low.size))
        obtain ⟨X, hX⟩ : ∃ X : It w0, X.1 = (.slice ta f tca, .slice tb h tcb, (la.take f).head?, (lb.take h).head?) := ⟨⟨_, HVA.out, HVB.out, HSS.out⟩, rfl⟩
        have HX := hid hX
        have hYX := HY.out pre X w2.drew hJ2 HLEN.out
        rw [hX] at hYX
        obtain ⟨fn, tmps, assign, body, hy, hR⟩ := hYX.mono (fun e w hh => two_endsO hh)
        have cA := xa2.cell
        have cB := xb2.cell
        have cC := xc2.cell
        have HXA := hid xa2
        have HXB := hid xb2
        have HXC := hid xc2
        clear hb2 hJ2 hYX hX xa2 xb2 xc2
        gi_wp2
        gi_region_with_o (refine hR.mono ?_; rintro e w3 ⟨bl, rfl, HE⟩)
        all_goals (rcases HE.out with ⟨rfl, hj, hkb⟩ | ⟨rfl, hjx⟩)
        all_goals gi_wp2
        all_goals first
          | (exact absurd (show (!true) = true by assumption) (by decide))
          | (exact absurd (show (!false) = false by assumption) (by decide))
          | (refine bodyPost_ret (results_none rfl _ _ _) rfl ?_
             exact ⟨⟨_, rfl⟩, .inr ⟨_, ⟨stepsV (la.drop f) (lb.drop h), by rw [pairs_snoc, List.append_assoc, HX.out]; exact HST.out⟩, hjx⟩⟩)
          | skip
        all_goals
          have xa3 := hkb.2 ba (Or.inl rfl) _ _ (show Boxed w2.drew ba 22 (.slice ao n ca) from HXA.out)
          have xb3 := hkb.2 bb (Or.inr (Or.inl rfl)) _ _ (show Boxed w2.drew bb 22 (.slice bo m cb) from HXB.out)
          have xc3 := hkb.2 bc (Or.inr (Or.inr rfl)) _ _ (show Boxed w2.drew bc 65 cmpV from HXC.out)
          have HTN := hid (TogI.next (f := f) (h := h) (la := la) (lb := lb) (X := X) (pre := pre) (va' := .slice da n1 dca) (vb' := .slice db m1 dcb) HBJ.out n0 hj ((HLOW2.out.trans (Below.refl _ w2).drew).trans hkb.1) xa3 xb3 xc3 (by rw [HX.out]) HDA.out HDB.out HST.out HDR.out)
          have cA := xa3.cell
          have cB := xb3.cell
          have fA := xa3.frozen
          have fB := xb3.frozen
          have cBa : (w3.drew.setCell ⟨ba, 0, none⟩ (.slice da n1 dca)).cell? ⟨bb, 0, none⟩ = some (.slice bo m cb) := (Boxed.other (show Boxed w3.drew bb 22 (.slice bo m cb) from xb3) (fun e => hab e.symm) _).cell
          have fBa : (w3.drew.setCell ⟨ba, 0, none⟩ (.slice da n1 dca)).frozen? ⟨bb, 0, none⟩ = false := (Boxed.other (show Boxed w3.drew bb 22 (.slice bo m cb) from xb3) (fun e => hab e.symm) _).frozen
          have cAb : (w3.drew.setCell ⟨bb, 0, none⟩ (.slice db m1 dcb)).cell? ⟨ba, 0, none⟩ = some (.slice ao n ca) := (Boxed.other (show Boxed w3.drew ba 22 (.slice ao n ca) from xa3) hab _).cell
          have fAb : (w3.drew.setCell ⟨bb, 0, none⟩ (.slice db m1 dcb)).frozen? ⟨ba, 0, none⟩ = false := (Boxed.other (show Boxed w3.drew ba 22 (.slice ao n ca) from xa3) hab _).frozen
          have HM1 := hid (show boxLen w3 ba + boxLen w3 bb = n + m by rw [boxLen_of xa3, boxLen_of xb3])
          clear hj hkb xa3 xb3 xc3
          gi_wp2
          gi_region_o
          all_goals gi_wp2
          all_goals go_roundw
          all_goals first
            | (with_reducible exact ⟨pre ++ [X], la.drop f, lb.drop h, _, _, n1, m1, _, _, HL, hid HTN.out.1⟩)
            | (with_reducible exact ⟨pre ++ [X], la.drop f, lb.drop h, _, _, n1, m1, _, _, HL, hid HTN.out.2⟩)
            | (rw [boxLen_of HTN.out.1.xa, boxLen_of HTN.out.1.xb, boxLen_of HI.out.xa, boxLen_of HI.out.xb]; exact HDN.out)
            | (rw [boxLen_of HTN.out.2.xa, boxLen_of HTN.out.2.xb, boxLen_of HI.out.xa, boxLen_of HI.out.xb]; exact HDN.out)
      · have hn0' : n = 0 := by omega
        have hm0 : 0 < m := by omega
        have hm0I : (0 : Int) < (m : Int) := by omega
        subst hn0'
        gi_wp2_with (refine ⟨trivial, ?_⟩; gi_at_call 62; refine (callsIn_wide.2 HNX.out).mono ?_; rintro e w2 ⟨rfl, hb2⟩)
        have HB2 := hid hb2
        have xa2 := boxed_below HI.out.xa hb2
        have xb2 := boxed_below HI.out.xb hb2
        have xc2 := boxed_below HI.out.xc hb2
        have hJ2 : J pre w2.drew := HBJ.out _ _ _ (HBJ.out _ _ _ HI.out.inv (steps_below hb2)) (steps_none ⟨rfl, rfl, rfl, Nat.le_refl _, fun _ _ _ => rfl⟩)
        have HLOW2 := hid (HI.out.low.trans (hb2.mono HI.out.low.size))
        obtain ⟨X, hX⟩ : ∃ X : It w0, X.1 = (.slice ta f tca, .slice tb h tcb, (la.take f).head?, (lb.take h).head?) := ⟨⟨_, HVA.out, HVB.out, HSS.out⟩, rfl⟩
        have HX := hid hX
        have hYX := HY.out pre X w2.drew hJ2 HLEN.out
        rw [hX] at hYX
        obtain ⟨fn, tmps, assign, body, hy, hR⟩ := hYX.mono (fun e w hh => two_endsO hh)
        have cA := xa2.cell
        have cB := xb2.cell
        have cC := xc2.cell
        have HXA := hid xa2
        have HXB := hid xb2
        have HXC := hid xc2
        clear hb2 hJ2 hYX hX xa2 xb2 xc2
        gi_wp2
        gi_region_with_o (refine hR.mono ?_; rintro e w3 ⟨bl, rfl, HE⟩)
        all_goals (rcases HE.out with ⟨rfl, hj, hkb⟩ | ⟨rfl, hjx⟩)
        all_goals gi_wp2
        all_goals first
          | (exact absurd (show (!true) = true by assumption) (by decide))
          | (exact absurd (show (!false) = false by assumption) (by decide))
          | (refine bodyPost_ret (results_none rfl _ _ _) rfl ?_
             exact ⟨⟨_, rfl⟩, .inr ⟨_, ⟨stepsV (la.drop f) (lb.drop h), by rw [pairs_snoc, List.append_assoc, HX.out]; exact HST.out⟩, hjx⟩⟩)
          | skip
        all_goals
          have xa3 := hkb.2 ba (Or.inl rfl) _ _ (show Boxed w2.drew ba 22 (.slice ao 0 ca) from HXA.out)
          have xb3 := hkb.2 bb (Or.inr (Or.inl rfl)) _ _ (show Boxed w2.drew bb 22 (.slice bo m cb) from HXB.out)
          have xc3 := hkb.2 bc (Or.inr (Or.inr rfl)) _ _ (show Boxed w2.drew bc 65 cmpV from HXC.out)
          have HTN := hid (TogI.next (f := f) (h := h) (la := la) (lb := lb) (X := X) (pre := pre) (va' := .slice da n1 dca) (vb' := .slice db m1 dcb) HBJ.out n0 hj ((HLOW2.out.trans (Below.refl _ w2).drew).trans hkb.1) xa3 xb3 xc3 (by rw [HX.out]) HDA.out HDB.out HST.out HDR.out)
          have cA := xa3.cell
          have cB := xb3.cell
          have fA := xa3.frozen
          have fB := xb3.frozen
          have cBa : (w3.drew.setCell ⟨ba, 0, none⟩ (.slice da n1 dca)).cell? ⟨bb, 0, none⟩ = some (.slice bo m cb) := (Boxed.other (show Boxed w3.drew bb 22 (.slice bo m cb) from xb3) (fun e => hab e.symm) _).cell
          have fBa : (w3.drew.setCell ⟨ba, 0, none⟩ (.slice da n1 dca)).frozen? ⟨bb, 0, none⟩ = false := (Boxed.other (show Boxed w3.drew bb 22 (.slice bo m cb) from xb3) (fun e => hab e.symm) _).frozen
          have cAb : (w3.drew.setCell ⟨bb, 0, none⟩ (.slice db m1 dcb)).cell? ⟨ba, 0, none⟩ = some (.slice ao 0 ca) := (Boxed.other (show Boxed w3.drew ba 22 (.slice ao 0 ca) from xa3) hab _).cell
          have fAb : (w3.drew.setCell ⟨bb, 0, none⟩ (.slice db m1 dcb)).frozen? ⟨ba, 0, none⟩ = false := (Boxed.other (show Boxed w3.drew ba 22 (.slice ao 0 ca) from xa3) hab _).frozen
          have HM1 := hid (show boxLen w3 ba + boxLen w3 bb = 0 + m by rw [boxLen_of xa3, boxLen_of xb3])
          clear hj hkb xa3 xb3 xc3
          gi_wp2
          gi_region_o
          all_goals gi_wp2
          all_goals go_roundw
          all_goals first
            | (with_reducible exact ⟨pre ++ [X], la.drop f, lb.drop h, _, _, n1, m1, _, _, HL, hid HTN.out.1⟩)
            | (with_reducible exact ⟨pre ++ [X], la.drop f, lb.drop h, _, _, n1, m1, _, _, HL, hid HTN.out.2⟩)
            | (rw [boxLen_of HTN.out.1.xa, boxLen_of HTN.out.1.xb, boxLen_of HI.out.xa, boxLen_of HI.out.xb]; exact HDN.out)
            | (rw [boxLen_of HTN.out.2.xa, boxLen_of HTN.out.2.xb, boxLen_of HI.out.xa, boxLen_of HI.out.xb]; exact HDN.out)
end Go.Proofs.YtibbbjikehkbmabDoor.Ve
