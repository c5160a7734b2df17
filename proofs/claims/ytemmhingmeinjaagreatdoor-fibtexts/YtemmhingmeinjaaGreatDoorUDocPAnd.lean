/-
  The law RulesAny, of any rules.
-/
import Derived.Test.YtemmhingmeinjaaGreatDoorVDocLAnd
namespace Go.Proofs.YtemmhingmeinjaaGreatDoor
open Go.RowKit

theorem step_append_srcR {P : Program} (w : World) {ops : Array Oper} {o : Oper} {a : Act} {K : Act → World → Prop} {Q : Exit → Act → World → Prop} {E : Prop} (hgd : o.guard = none) (s x : Operand) (t : TypeId)
    (ho : o.op = .call { callee := .builtin .append, args := #[s, x], argTypes := #[t, t] })
    (base : Nat) (e : TypeId) (i : TypeInfo) (z : Value) (size bytes : Nat) (ht : P.underlying t = some (.slice e)) (hi : P.info? e = some i) (hz : i.zero = some z)
    (hsize : i.size = size) (hby : i.bytes = bytes) (hzs : z.cells.size = size) (hsz : 0 < size)
    (v : Value) (n : Nat) (xs : List Value) (hs : a.eval s = v) (hown : w.ownsRow base e size v n xs)
    (vx : Value) (m : Nat) (news : List Value) (hx : a.eval x = vx) (hsrc : (vx = .slice none 0 0 ∧ m = 0 ∧ news = []) ∨ ∃ ad c, vx = .slice (some ad) m c ∧ news.length = m * size ∧ ∀ j u, news[j]? = some u → w.cell? (ad.add j) = some u) (h1 : ∀ u ∈ news, u.oneCell' = true)
    (h63 : n + m ≤ maxLen) (hbytes : (n + m) * bytes ≤ 140737488355328) (hbase : base ≤ w.heap.size)
    (h : ∀ v' w', w'.ownsRow base e size v' (n + m) (xs ++ news) → w.grownBy w' v.ownBlock → K (a.put o.dst v') w') :
    if Region.wanted o (yielded ops a.tmps) = true then Oper.wp P o a w K Q else E := by
  have hw : Region.wanted o (yielded ops a.tmps) = true := by simp [Region.wanted, hgd]
  rw [if_pos hw]
  rcases hsrc with ⟨rfl, rfl, rfl⟩ | ⟨ad, cap, rfl, hl, hc⟩
  · have hrun := run_append_owned_none (P := P) (w := w) base t o.type e i size ht hi v n xs hown
    unfold Oper.wp
    simp [execOp, ho, resolve, invoke, builtin, hs, hx, hrun, Result.andThen]
    exact h v w (by simpa using hown) (grown_refl _ _)
  · obtain ⟨v', w', hrun, h2, h3, _, _⟩ := run_append_own_at (P := P) w base t o.type e i z size bytes ht hi hz hsize hby hzs hsz v n xs hown ad m cap news hl hc h1 h63 hbytes hbase
    unfold Oper.wp
    simp [execOp, ho, resolve, invoke, builtin, hs, hx, hrun, Result.andThen]
    exact h v' w' h2 h3
structure NextAt_ (w2 w6 : World) (v6 : Value) (n : Nat) (xs : List Value) : Prop where
  low : Below w2.heap.size w2 w6
  own : w6.ownsRow w2.heap.size 51 4 v6 n xs
theorem grown_own {w2 X w5 : World} {v : Value} {n : Nat} {xs : List Value} (hX : Below w2.heap.size w2 X) (h : X.ownsRow w2.heap.size 51 4 v n xs) (hg : X.grownBy w5 v.ownBlock) : Below w2.heap.size w2 w5 := hX.grown hg hX.size (fun q hq => (h.lt q hq).1)

theorem DocAt.next {w w2 w7 : World} {ps : List (Raw × Value)} {j k : Nat} {vo v7 : Value} {S : List Nat} {pp kk : Int} {mm : List UInt8} {zz : List (List UInt8)} {uv : Value} (h : DocAt w ps j vo S w2) (hq : ps[j]? = some (⟨pp, mm, kk, zz⟩, uv)) (hk : k ≤ j) (hu : St.Up (cmpAt ps) (S.take k ++ j :: S.drop k)) (hl : Below w2.heap.size w2 w7)
    (ho : w7.ownsRow w2.heap.size 51 4 v7 (k + 1 + (j - k)) (flatV (rowOf ps (S.take k)) ++ [.int .i64 pp, .string (tx mm), .int .i64 kk, uv] ++ flatV (rowOf ps (S.drop k)))) : DocAt w ps (k + 1 + (j - k)) v7 (S.take k ++ j :: S.drop k) w7 := by
  refine ⟨h.low.trans (hl.mono h.low.size), ?_, hu, ?_⟩
  · have e : flatV (rowOf ps (S.take k ++ j :: S.drop k)) = flatV (rowOf ps (S.take k)) ++ [.int .i64 pp, .string (tx mm), .int .i64 kk, uv] ++ flatV (rowOf ps (S.drop k)) := by
      rw [rowOf_append, flatV_append, List.append_assoc]
      congr 1
      have e2 : rowOf ps (j :: S.drop k) = (⟨pp, mm, kk, zz⟩, uv) :: rowOf ps (S.drop k) := by
        unfold rowOf
        rw [List.map_cons, List.getD_eq_getElem?_getD, hq]; rfl
      rw [e2]; rfl
    rw [e]
    obtain ⟨h1, h2⟩ := ho
    refine ⟨h1, ?_⟩
    rcases h2 with h2 | ⟨g, cap, cur, q1, q2, q3⟩
    · exact Or.inl h2
    · exact Or.inr ⟨g, cap, cur, q1, Nat.le_trans h.low.size q2, q3⟩
  · rw [show k + 1 + (j - k) = j + 1 by omega, List.range'_1_concat, Nat.zero_add]
    refine List.perm_middle.trans ?_
    rw [List.take_append_drop]
    exact (List.Perm.cons j h.perm).trans (List.perm_append_singleton j _).symm

set_option maxRecDepth 20000 in
set_option maxHeartbeats 4000000 in
theorem ROrder_some {w : World} {g o cap n : Nat} {ps : List (Raw × Value)} (h : RawView w g o ps) (hn : ps.length = n) (h60 : n ≤ 4096) :
    Calls Tryz.prog 26 #[.slice (some ⟨g, o, none⟩) n cap] w fun e w' => ∃ bo bc S, e = .returned (.slice bo n bc) ∧ Hid (DocAt w ps n (.slice bo n bc) S w') := by
  have mixed := Tryz.mixed
  have H := hid h
  have HN := hid hn
  have hg := h.old
  obtain ⟨i0, hi, hz0, hz1, hz2⟩ := info_parts Tryz.infoRule4
  have HI := hid hi
  have HZ0 := hid hz0
  have HZ1 := hid hz1
  have HZ2 := hid hz2
  have HORD := hid (show St.Ord (cmpAt ps) n from hn ▸ ord_rules ps)
  have HV := hid (show ∀ W, Below w.heap.size w W → RawView W g o ps from fun W hW => ⟨Nat.lt_of_lt_of_le hg hW.size, fun i q hq => by
    obtain ⟨c0, c1, c2, c3⟩ := h.cell i q hq
    exact ⟨(hW.cell (by exact hg)).trans c0, (hW.cell (by exact hg)).trans c1, (hW.cell (by exact hg)).trans c2, (hW.cell (by exact hg)).trans c3⟩, fun q hq => ⟨(h.ports q hq).1.below hW, (h.ports q hq).2⟩⟩)
  have HPV := hid (show ∀ q ∈ ps, ∃ ao n c, q.2 = .slice ao n c from fun q hq => by obtain ⟨ao, c, e, _⟩ := (h.ports q hq).1; exact ⟨ao, _, c, e⟩)
  have HB0 := hid (show DocAt w ps 0 (.slice none 0 0) [] w from ⟨Below.refl _ _, World.ownsRow_nil _ _ _ _, List.Pairwise.nil, List.Perm.nil⟩)
  clear h hn hi hz0 hz1 hz2
  go_enter Tryz.func26, Tryz.ntmps26
  go_wp2_with fail
  go_loopw [3, 4, 5, 6] (fun vo vi _ _ wr => ∃ (j : Nat) (bo : Option Addr) (bc : Nat) (S : List Nat), j ≤ n ∧ vi = .int .i64 j ∧ vo = .slice bo j bc ∧ Hid (DocAt w ps j (.slice bo j bc) S wr)) (fun _ vi _ _ _ => n - (intOf vi).toNat)
  case atStart => exact ⟨0, none, 0, [], Nat.zero_le _, rfl, rfl, HB0⟩
  case round =>
    obtain ⟨j, bo, bc, S, hj, rfl, rfl, HA⟩ := hrel
    rename World => wo
    by_cases hlt : j < n
    · obtain ⟨q, hq⟩ : ∃ q, ps[j]? = some q := ⟨ps[j]'(by rw [HN.out]; exact hlt), List.getElem?_eq_getElem _⟩
      have HQ := hid hq
      have hI : (j : Int) < (n : Int) := by omega
      have j0 : (0 : Int) ≤ (j : Int) := by omega
      obtain ⟨ao, an, ac, hq2⟩ := HPV.out q (List.mem_of_getElem? hq)
      obtain ⟨⟨pp, mm, kk, zz⟩, uv⟩ := q
      simp only at hq2
      subst hq2
      clear hq
      go_wp2_with fail
      go_loopw [5] (fun vk wr => ∃ k : Nat, k ≤ j ∧ vk = .int .i64 k ∧ Hid (DocAt w ps j (.slice bo j bc) S wr) ∧ Hid (∀ b ∈ S.drop k, cmpAt ps j b < 0)) (fun vk _ => (intOf vk).toNat)
      case atStart => exact ⟨j, Nat.le_refl _, rfl, HA, fun b hb => by rw [List.drop_of_length_le (by rw [HA.out.len]; exact Nat.le_refl _)] at hb; cases hb⟩
      case round =>
        obtain ⟨k, hk, rfl, HX, HU⟩ := hrel
        have HDONE := hid (fun (W : World) (hD : DocAt w ps j (.slice bo j bc) S W) (hlast : ∀ a, (S.take k).getLast? = some a → ¬ cmpAt ps j a < 0) => show St.Up (cmpAt ps) (S.take k ++ j :: S.drop k) from
          HORD.out.put (A := S.take k) (B := S.drop k) hlt (fun x hx => by rw [List.take_append_drop] at hx; have := hD.mem hx; omega) (by rw [List.take_append_drop]; exact hD.up) (fun x hx => by rw [List.take_append_drop] at hx; exact hD.mem hx) HU.out hlast)
        by_cases hk0 : 0 < k
        · obtain ⟨t, htk⟩ : ∃ t, k = t + 1 := ⟨k - 1, by omega⟩
          have HTK := hid htk
          have htS : t < S.length := by rw [HX.out.len]; omega
          obtain ⟨y, hy⟩ : ∃ y, S[t]? = some y := ⟨S[t], List.getElem?_eq_getElem htS⟩
          have hyj := HX.out.mem (List.mem_of_getElem? hy)
          obtain ⟨r, hr⟩ : ∃ r, ps[y]? = some r := ⟨ps[y]'(by rw [HN.out]; omega), List.getElem?_eq_getElem _⟩
          have HYR := hid (And.intro hy hr)
          obtain ⟨g2, hbo, _, hjc, hg2, hcell⟩ : ∃ g2, bo = some ⟨g2, 0, none⟩ ∧ w.heap.size ≤ g2 ∧ j ≤ bc ∧ g2 < wr.heap.size ∧ ∀ (j : Nat) (u : Value), (flatV (rowOf ps S))[j]? = some u → wr.cell? ⟨g2, j, none⟩ = some u := by
            rcases own_cells HX.out.own with ⟨_, q, _⟩ | q
            · omega
            · exact q
          subst hbo
          obtain ⟨x0, x1, x2, x3⟩ := flatV_get (rowOf_get hy hr)
          have d0 := hcell _ _ x0
          have d1 := hcell _ _ x1
          have d2 := hcell _ _ x2
          have d3 := hcell _ _ x3
          clear x0 x1 x2 x3
          obtain ⟨e0, e1, e2, e3⟩ := (HV.out _ HX.out.low).cell j _ HQ.out
          obtain ⟨ro, rn, rc, hr2⟩ := HPV.out r (List.mem_of_getElem? hr)
          obtain ⟨⟨p', m', k', z'⟩, uv⟩ := r
          simp only at e0 e1 e2 e3 d0 d1 d2 d3 hr2
          subst hr2
          have HAH := hid (fun W : World => RAhead_any (w := W) (p := pp) (q := p') (k := kk) (l := k') (m := mm) (n := m') (ao := ao) (bo := ro) (la := an) (ca := ac) (lb := rn) (cb := rc))
          have HCM := hid (show aheadB pp p' mm m' = true ↔ cmpAt ps j y < 0 by
            unfold aheadB cmpAt
            rw [HQ.out, HYR.out.2]
            simp only [decide_eq_true_eq]
            exact (cmpR_neg (a := ⟨pp, mm, kk, zz⟩) (b := ⟨p', m', k', z'⟩)).symm)
          obtain ⟨bv, hbv⟩ : ∃ bv, bv = aheadB pp p' mm m' := ⟨_, rfl⟩
          rw [← hbv] at HAH HCM
          have hkI : (0 : Int) < (k : Int) := by omega
          have w1 : IntKind.i64.wrap ((k : Int) - 1) = (t : Int) := by rw [IntKind.wrap_i64]; omega
          have t0 : (0 : Int) ≤ (t : Int) := by omega
          have t1 : (t : Int) < (j : Int) := by omega
          have hcS : Hid (∀ W : World, Below wr.heap.size wr W → W.cell? ⟨g, o + j * 4, none⟩ = some (.int .i64 pp) ∧ W.cell? ⟨g, o + j * 4 + 1, none⟩ = some (.string (tx mm)) ∧ W.cell? ⟨g, o + j * 4 + 2, none⟩ = some (.int .i64 kk) ∧ W.cell? ⟨g, o + j * 4 + 3, none⟩ = some (.slice ao an ac) ∧ W.cell? ⟨g2, t * 4, none⟩ = some (.int .i64 p') ∧ W.cell? ⟨g2, t * 4 + 1, none⟩ = some (.string (tx m')) ∧ W.cell? ⟨g2, t * 4 + 2, none⟩ = some (.int .i64 k') ∧ W.cell? ⟨g2, t * 4 + 3, none⟩ = some (.slice ro rn rc)) := fun W hW =>
            ⟨(hW.cell (block_old e0)).trans e0, (hW.cell (block_old e1)).trans e1, (hW.cell (block_old e2)).trans e2, (hW.cell (block_old e3)).trans e3, (hW.cell (block_old d0)).trans d0, (hW.cell (block_old d1)).trans d1, (hW.cell (block_old d2)).trans d2, (hW.cell (block_old d3)).trans d3⟩
          have hS0 := hcS.out wr (Below.refl _ _)
          clear e0 e1 e2 e3 d0 d1 d2 d3 hcell hy hr htk htS hbv
          go_wp2_with fail
          go_region_held2 (fun W => W.cell? ⟨g, o + j * 4, none⟩ = some (.int .i64 pp) ∧ W.cell? ⟨g, o + j * 4 + 1, none⟩ = some (.string (tx mm)) ∧ W.cell? ⟨g, o + j * 4 + 2, none⟩ = some (.int .i64 kk) ∧ W.cell? ⟨g, o + j * 4 + 3, none⟩ = some (.slice ao an ac) ∧ W.cell? ⟨g2, t * 4, none⟩ = some (.int .i64 p') ∧ W.cell? ⟨g2, t * 4 + 1, none⟩ = some (.string (tx m')) ∧ W.cell? ⟨g2, t * 4 + 2, none⟩ = some (.int .i64 k') ∧ W.cell? ⟨g2, t * 4 + 3, none⟩ = some (.slice ro rn rc)) (first | exact hS0 | exact hS2) (first | (go_at_call 48; refine (HAH.out _).mono ?_; rintro en w2 ⟨rfl, hb2⟩; have B2 := hid (show Below wr.heap.size wr w2 by (first | exact hb2 | exact undrew hb2)); have hS2 := hcS.out w2 B2.out; clear hb2))
          have HD := hid (show DocAt w ps j (.slice (some ⟨g2, 0, none⟩) j bc) S w2 from ⟨HX.out.low.trans (B2.out.mono HX.out.low.size), own_kept HX.out.own B2.out, HX.out.up, HX.out.perm⟩)
          clear hS0 hS2
          cases bv with
          | true =>
            have HU2 := hid (show ∀ b ∈ S.drop t, cmpAt ps j b < 0 from fun b hb => by
              have hd : S.drop t = y :: S.drop k := by
                have h1 := (List.getElem?_eq_some_iff.1 HYR.out.1)
                obtain ⟨hlt1, hgt⟩ := h1
                rw [HTK.out, List.drop_eq_getElem_cons hlt1, hgt]
              rw [hd] at hb
              rcases List.mem_cons.1 hb with rfl | hb
              · exact HCM.out.1 rfl
              · exact HU.out b hb)
            go_wp2
            go_roundw
            case rel => exact ⟨t, by have := HTK.out; omega, by first | rfl | go_num, HD, HU2⟩
            case measure => have := HTK.out; simp [intOf]; omega
          | false =>
            have HUP := hid (HDONE.out w2 HD.out (fun a ha => by
              have : (S.take k).getLast? = some y := by
                rw [List.getLast?_eq_getElem?, List.length_take, HTK.out, List.getElem?_take]
                have hl := (List.getElem?_eq_some_iff.1 HYR.out.1).1
                rw [Nat.min_eq_left (by omega), Nat.add_sub_cancel, if_pos (by omega)]
                exact HYR.out.1
              rw [this] at ha
              cases ha
              have hn : ¬ cmpAt ps j y < 0 := fun q => by (have := HCM.out.2 q; cases this)
              omega))
            obtain ⟨e0, e1, e2, e3⟩ := (HV.out _ HD.out.low).cell j _ HQ.out
            simp only at e0 e1 e2 e3
            obtain ⟨hb2, hb3, hb4, hb5⟩ : w.heap.size ≤ g2 ∧ j ≤ bc ∧ g2 < w2.heap.size ∧ ∀ (j : Nat) (u : Value), (flatV (rowOf ps S))[j]? = some u → w2.cell? ⟨g2, j, none⟩ = some u := by
              rcases own_cells HD.out.own with ⟨q, _⟩ | ⟨g3, q1, q2, q3, q4, q5⟩
              · cases q
              · injection q1 with q1
                injection q1 with q1
                subst q1
                exact ⟨q2, q3, q4, q5⟩
            have HC5 := hid hb5
            have hkc : (k : Int) ≤ (bc : Int) := by omega
            have hk00 : (0 : Int) ≤ (k : Int) := by omega
            clear hb5
            have HB := hid (show Below w2.heap.size w2 w2.drew from (Below.refl _ _).drew)
            have HX1 := hid (HB.out.alloc (Nat.le_refl _) (.cells #[] 51))
            have HX2 := hid (HX1.out.alloc HX1.out.size (rob pp (tx mm) kk (.slice ao an ac)))
            have HX4 := hid (HB.out.alloc (Nat.le_refl _) (rob pp (tx mm) kk (.slice ao an ac)))
            have HX3 := hid (HX4.out.alloc HX4.out.size (.cells #[] 51))
            have HW1 := hid (show (w2.drew.alloc (.cells #[] 51)).ownsRow w2.heap.size 51 4 (.slice (some ⟨w2.heap.size, 0, none⟩) 0 0) 0 [] from World.ownsRow_made w2.drew #[] 0 (Nat.le_refl _) (Nat.zero_le _) rfl)
            have HW2 := hid (HW1.out.alloc (rob pp (tx mm) kk (.slice ao an ac)))
            have HW3 := hid (show ((w2.drew.alloc (rob pp (tx mm) kk (.slice ao an ac))).alloc (.cells #[] 51)).ownsRow w2.heap.size 51 4 (.slice (some ⟨w2.heap.size + 1, 0, none⟩) 0 0) 0 [] from ⟨rfl, Or.inr ⟨w2.heap.size + 1, 0, #[], rfl, by omega, new_1 _ _ _, Nat.le_refl _, Nat.zero_le _, rfl, rfl⟩⟩)
            have HONE1 := hid (flatV_one (rs := rowOf ps (S.take k)) (fun q hq => by
              obtain ⟨i, _, rfl⟩ := List.mem_map.1 hq
              cases hp : ps[i]? with
              | none => exact ⟨none, 0, 0, by simp [List.getD_eq_getElem?_getD, hp]⟩
              | some q0 => obtain ⟨a1, a2, a3, a4⟩ := HPV.out q0 (List.mem_of_getElem? hp); exact ⟨a1, a2, a3, by simp [List.getD_eq_getElem?_getD, hp, a4]⟩))
            have HONE2 := hid (show ∀ u ∈ ([.int .i64 pp, .string (tx mm), .int .i64 kk, .slice ao an ac] : List Value), u.oneCell' = true by simp [Value.oneCell'])
            have HKP := hid (show ∀ W : World, Below w2.heap.size w2 W → W.cell? ⟨g, o + j * 4, none⟩ = some (.int .i64 pp) ∧ W.cell? ⟨g, o + j * 4 + 1, none⟩ = some (.string (tx mm)) ∧ W.cell? ⟨g, o + j * 4 + 2, none⟩ = some (.int .i64 kk) ∧ W.cell? ⟨g, o + j * 4 + 3, none⟩ = some (.slice ao an ac) from fun W hW => ⟨(hW.cell (block_old e0)).trans e0, (hW.cell (block_old e1)).trans e1, (hW.cell (block_old e2)).trans e2, (hW.cell (block_old e3)).trans e3⟩)
            have HSRC := hid (show ∀ X : World, Below w2.heap.size w2 X → ((.slice (some ⟨g2, 0, none⟩) k bc : Value) = .slice none 0 0 ∧ k = 0 ∧ flatV (rowOf ps (S.take k)) = []) ∨ ∃ ad c, (.slice (some ⟨g2, 0, none⟩) k bc : Value) = .slice (some ad) k c ∧ (flatV (rowOf ps (S.take k))).length = k * 4 ∧ ∀ t u, (flatV (rowOf ps (S.take k)))[t]? = some u → X.cell? (ad.add t) = some u from fun X hX => by
              refine Or.inr ⟨⟨g2, 0, none⟩, bc, rfl, by rw [flatV_len, rowOf_len, List.length_take, HD.out.len]; omega, fun t u hu => ?_⟩
              rw [addr_add5, Nat.zero_add, hX.cell (by exact hb4)]
              refine HC5.out t u ?_
              have e : rowOf ps S = rowOf ps (S.take k) ++ rowOf ps (S.drop k) := by rw [← rowOf_append, List.take_append_drop]
              rw [e, flatV_append, List.getElem?_append_left (List.getElem?_eq_some_iff.1 hu).1]
              exact hu)
            have HSR2 := hid (show ∀ X : World, Below w2.heap.size w2 X → (k < bc → (((.slice (some ⟨g2, k * 4, none⟩) (j - k) (bc - k) : Value) = .slice none 0 0 ∧ j - k = 0 ∧ flatV (rowOf ps (S.drop k)) = []) ∨ ∃ ad c, (.slice (some ⟨g2, k * 4, none⟩) (j - k) (bc - k) : Value) = .slice (some ad) (j - k) c ∧ (flatV (rowOf ps (S.drop k))).length = (j - k) * 4 ∧ ∀ t u, (flatV (rowOf ps (S.drop k)))[t]? = some u → X.cell? (ad.add t) = some u)) ∧ (¬ k < bc → ∀ (ad : Addr) (c : Nat), (((.slice (some ad) (j - k) c : Value) = .slice none 0 0 ∧ j - k = 0 ∧ flatV (rowOf ps (S.drop k)) = []) ∨ ∃ ad' c', (.slice (some ad) (j - k) c : Value) = .slice (some ad') (j - k) c' ∧ (flatV (rowOf ps (S.drop k))).length = (j - k) * 4 ∧ ∀ t u, (flatV (rowOf ps (S.drop k)))[t]? = some u → X.cell? (ad'.add t) = some u)) from fun X hX => by
              have hl : (flatV (rowOf ps (S.drop k))).length = (j - k) * 4 := by rw [flatV_len, rowOf_len, List.length_drop, HD.out.len]
              refine ⟨fun _ => Or.inr ⟨⟨g2, k * 4, none⟩, bc - k, rfl, hl, fun t u hu => ?_⟩, fun hkb ad c => Or.inr ⟨ad, c, rfl, hl, fun t u hu => ?_⟩⟩
              · rw [addr_add5, hX.cell (by exact hb4)]
                refine HC5.out _ u ?_
                have e : rowOf ps S = rowOf ps (S.take k) ++ rowOf ps (S.drop k) := by rw [← rowOf_append, List.take_append_drop]
                have hl1 : (flatV (rowOf ps (S.take k))).length = k * 4 := by rw [flatV_len, rowOf_len, List.length_take, HD.out.len, Nat.min_eq_left hk]
                rw [e, flatV_append, List.getElem?_append_right (by omega), hl1, Nat.add_sub_cancel_left]
                exact hu
              · have := (List.getElem?_eq_some_iff.1 hu).1
                omega)
            have HONE3 := hid (flatV_one (rs := rowOf ps (S.drop k)) (fun q hq => by
              obtain ⟨i, _, rfl⟩ := List.mem_map.1 hq
              cases hp : ps[i]? with
              | none => exact ⟨none, 0, 0, by simp [List.getD_eq_getElem?_getD, hp]⟩
              | some q0 => obtain ⟨a1, a2, a3, a4⟩ := HPV.out q0 (List.mem_of_getElem? hp); exact ⟨a1, a2, a3, by simp [List.getD_eq_getElem?_getD, hp, a4]⟩))
            have K0 := HKP.out w2.drew HB.out
            clear e0 e1 e2 e3
            go_wp2_with fail
            go_region_held3 (fun W => W.cell? ⟨g, o + j * 4, none⟩ = some (.int .i64 pp) ∧ W.cell? ⟨g, o + j * 4 + 1, none⟩ = some (.string (tx mm)) ∧ W.cell? ⟨g, o + j * 4 + 2, none⟩ = some (.int .i64 kk) ∧ W.cell? ⟨g, o + j * 4 + 3, none⟩ = some (.slice ao an ac)) (first | exact K6 | exact K5 | exact K0 | exact HKP.out _ HX1.out | exact HKP.out _ HX4.out | exact HKP.out _ HX2.out | exact HKP.out _ HX3.out | exact HKP.out _ (L5.out.alloc L5.out.size (rob pp (tx mm) kk (.slice ao an ac)))) (first | (refine step_append_srcR _ (by rfl) (.tmp 35) (.tmp 40) 36 (by rfl) w2.heap.size 51 i0 (.agg #[.int .i64 0, .string (tx []), .int .i64 0, .slice none 0 0]) 4 56 Tryz.underlying36 HI.out HZ0.out HZ1.out HZ2.out rfl (by decide) v5 (0 + k) ([] ++ (flatV (rowOf ps (S.take k)))) (by rfl) (by exact hown5) (.slice (some ⟨w2.heap.size + 1, 0, none⟩) 1 1) 1 [.int .i64 pp, .string (tx mm), .int .i64 kk, .slice ao an ac] (by rfl) (Or.inr ⟨⟨w2.heap.size + 1, 0, none⟩, 1, rfl, rfl, World.news_of_block N5b⟩) HONE2.out (by unfold maxLen; omega) (by omega) (by exact (L5.out).size) ?_; intro v6 w6 hown6 hgr6; have L6 := hid (grown_own (L5.out) (hown5) hgr6); have K6 := HKP.out w6 L6.out; have F6 := hid (NextAt_.mk (w2 := w2) L6.out hown6)) | (refine step_append_srcR _ (by rfl) (.tmp 35) (.tmp 40) 36 (by rfl) w2.heap.size 51 i0 (.agg #[.int .i64 0, .string (tx []), .int .i64 0, .slice none 0 0]) 4 56 Tryz.underlying36 HI.out HZ0.out HZ1.out HZ2.out rfl (by decide) v5 (0 + k) ([] ++ (flatV (rowOf ps (S.take k)))) (by rfl) (by exact hown5) (.slice (some ⟨w2.heap.size, 0, none⟩) 1 1) 1 [.int .i64 pp, .string (tx mm), .int .i64 kk, .slice ao an ac] (by rfl) (Or.inr ⟨⟨w2.heap.size, 0, none⟩, 1, rfl, rfl, World.news_of_block N5c⟩) HONE2.out (by unfold maxLen; omega) (by omega) (by exact (L5.out).size) ?_; intro v6 w6 hown6 hgr6; have L6 := hid (grown_own (L5.out) (hown5) hgr6); have K6 := HKP.out w6 L6.out; have F6 := hid (NextAt_.mk (w2 := w2) L6.out hown6)) | (refine step_append_srcR _ (by rfl) (.tmp 35) (.tmp 40) 36 (by rfl) w2.heap.size 51 i0 (.agg #[.int .i64 0, .string (tx []), .int .i64 0, .slice none 0 0]) 4 56 Tryz.underlying36 HI.out HZ0.out HZ1.out HZ2.out rfl (by decide) v5 (0 + k) ([] ++ (flatV (rowOf ps (S.take k)))) (by rfl) (by exact hown5.alloc (rob pp (tx mm) kk (.slice ao an ac))) (.slice (some ⟨w5.heap.size, 0, none⟩) 1 1) 1 [.int .i64 pp, .string (tx mm), .int .i64 kk, .slice ao an ac] (by rfl) (Or.inr ⟨⟨w5.heap.size, 0, none⟩, 1, rfl, rfl, World.news_of_block (new_0 w5 (rob pp (tx mm) kk (.slice ao an ac)))⟩) HONE2.out (by unfold maxLen; omega) (by omega) (by exact (L5.out.alloc L5.out.size (rob pp (tx mm) kk (.slice ao an ac))).size) ?_; intro v6 w6 hown6 hgr6; have L6 := hid (grown_own (L5.out.alloc L5.out.size (rob pp (tx mm) kk (.slice ao an ac))) (hown5.alloc (rob pp (tx mm) kk (.slice ao an ac))) hgr6); have K6 := HKP.out w6 L6.out; have F6 := hid (NextAt_.mk (w2 := w2) L6.out hown6)) | (refine step_append_srcR _ (by rfl) (.tmp 31) (.tmp 34) 36 (by rfl) w2.heap.size 51 i0 (.agg #[.int .i64 0, .string (tx []), .int .i64 0, .slice none 0 0]) 4 56 Tryz.underlying36 HI.out HZ0.out HZ1.out HZ2.out rfl (by decide) (.slice (some ⟨w2.heap.size, 0, none⟩) 0 0) 0 [] (by rfl) (by exact HW2.out) (.slice (some ⟨g2, 0, none⟩) k bc) k (flatV (rowOf ps (S.take k))) (by rfl) (HSRC.out _ HX2.out) HONE1.out (by unfold maxLen; omega) (by omega) (by exact HX2.out.size) ?_; intro v5 w5 hown5 hgr5; have L5 := hid (grown_own HX2.out HW2.out hgr5); have K5 := HKP.out w5 L5.out; have N5b : w5.heap[w2.heap.size + 1]? = some (rob pp (tx mm) kk (.slice ao an ac)) := (hgr5.block _ (by simp) (by simp [Value.ownBlock])).trans (new_1 _ _ _)) | (refine step_append_srcR _ (by rfl) (.tmp 31) (.tmp 34) 36 (by rfl) w2.heap.size 51 i0 (.agg #[.int .i64 0, .string (tx []), .int .i64 0, .slice none 0 0]) 4 56 Tryz.underlying36 HI.out HZ0.out HZ1.out HZ2.out rfl (by decide) (.slice (some ⟨w2.heap.size + 1, 0, none⟩) 0 0) 0 [] (by rfl) (by exact HW3.out) (.slice (some ⟨g2, 0, none⟩) k bc) k (flatV (rowOf ps (S.take k))) (by rfl) (HSRC.out _ HX3.out) HONE1.out (by unfold maxLen; omega) (by omega) (by exact HX3.out.size) ?_; intro v5 w5 hown5 hgr5; have L5 := hid (grown_own HX3.out HW3.out hgr5); have K5 := HKP.out w5 L5.out; have N5c : w5.heap[w2.heap.size]? = some (rob pp (tx mm) kk (.slice ao an ac)) := (hgr5.block _ (by simp; omega) (by simp [Value.ownBlock])).trans (new_old _ _ (new_0 _ _))) | (refine step_append_srcR _ (by rfl) (.tmp 31) (.tmp 34) 36 (by rfl) w2.heap.size 51 i0 (.agg #[.int .i64 0, .string (tx []), .int .i64 0, .slice none 0 0]) 4 56 Tryz.underlying36 HI.out HZ0.out HZ1.out HZ2.out rfl (by decide) (.slice (some ⟨w2.heap.size, 0, none⟩) 0 0) 0 [] (by rfl) (by exact HW1.out) (.slice (some ⟨g2, 0, none⟩) k bc) k (flatV (rowOf ps (S.take k))) (by rfl) (HSRC.out _ HX1.out) HONE1.out (by unfold maxLen; omega) (by omega) (by exact HX1.out.size) ?_; intro v5 w5 hown5 hgr5; have L5 := hid (grown_own HX1.out HW1.out hgr5); have K5 := HKP.out w5 L5.out; skip))
            all_goals (clear K0)
            all_goals (try clear K5)
            all_goals (try clear K6)
            all_goals (obtain ⟨a6, c6, hv6⟩ := own_form F6.out.own; rw [Nat.zero_add] at hv6; subst hv6)
            all_goals (have O6 := hid (show w6.ownsRow w2.heap.size 51 4 (.slice a6 (k + 1) c6) (k + 1) ((flatV (rowOf ps (S.take k))) ++ [.int .i64 pp, .string (tx mm), .int .i64 kk, .slice ao an ac]) by (have q := F6.out.own; simp only [Nat.zero_add, List.nil_append] at q; exact q)))
            all_goals (have LL6 := hid F6.out.low)
            all_goals (clear F6 L5 hown5 hgr5)
            all_goals (rcases Nat.lt_or_eq_of_le (show k ≤ bc by omega) with hkb | hkb)
            all_goals (have hkI : (k : Int) ≤ (j : Int) := by omega)
            all_goals (have hjI : (j : Int) ≤ (bc : Int) := by omega)
            all_goals (have SRC2 := hid (HSR2.out w6 LL6.out))
            all_goals (first | subst hkb | skip)
            all_goals (have hsz6 := LL6.out.size)
            all_goals (go_wp2_with (first | (at_builtin; refine wpList_append_srcR _ rfl _ _ 36 rfl w2.heap.size 51 i0 (.agg #[.int .i64 0, .string (tx []), .int .i64 0, .slice none 0 0]) 4 56 Tryz.underlying36 HI.out HZ0.out HZ1.out HZ2.out rfl (by decide) (.slice a6 (k + 1) c6) (k + 1) ((flatV (rowOf ps (S.take k))) ++ [.int .i64 pp, .string (tx mm), .int .i64 kk, .slice ao an ac]) rfl O6.out _ (j - k) (flatV (rowOf ps (S.drop k))) rfl (by first | exact SRC2.out.1 hkb | exact SRC2.out.2 (by omega) _ _) HONE3.out (by unfold maxLen; omega) (by omega) (by omega) ?_) | (at_builtin; refine wpList_append_srcR _ rfl _ _ 36 rfl w2.heap.size 51 i0 (.agg #[.int .i64 0, .string (tx []), .int .i64 0, .slice none 0 0]) 4 56 Tryz.underlying36 HI.out HZ0.out HZ1.out HZ2.out rfl (by decide) (.slice a6 (k + 1) c6) (k + 1) ((flatV (rowOf ps (S.take k))) ++ [.int .i64 pp, .string (tx mm), .int .i64 kk, .slice ao an ac]) rfl O6.out (.slice (some ⟨g2, 0, none⟩) 0 0) 0 [] rfl (Or.inr ⟨⟨g2, 0, none⟩, 0, rfl, rfl, fun t u hu => by simp at hu⟩) (by simp) (by unfold maxLen; omega) (by omega) (by omega) ?_)))
            all_goals (intro v7 w7 hown7 hgr7)
            all_goals (have hown8 : w7.ownsRow w2.heap.size 51 4 v7 (k + 1 + (j - k)) ((flatV (rowOf ps (S.take k))) ++ [.int .i64 pp, .string (tx mm), .int .i64 kk, .slice ao an ac] ++ flatV (rowOf ps (S.drop k))) := by (first | (simpa using hown7) | (have q2 : j - k = 0 := (by omega); have q3 : flatV (rowOf ps (S.drop k)) = [] := (by rw [List.drop_of_length_le (by rw [HD.out.len]; omega)]; rfl); rw [q3, q2]; simpa using hown7)))
            all_goals (have HN7 := hid (HD.out.next HQ.out hk HUP.out (grown_own LL6.out O6.out hgr7) hown8))
            all_goals (clear hown7)
            all_goals (obtain ⟨a7, c7, hv7⟩ := own_form hown8; subst hv7)
            all_goals (rw [show k + 1 + (j - k) = j + 1 by omega] at HN7 ⊢)
            all_goals (clear hown8 hgr7)
            all_goals go_wp2
            all_goals go_roundw
            all_goals (first | exact ⟨j + 1, a7, c7, _, by omega, by go_num, rfl, HN7⟩ | (simp [intOf]; omega))
        · have hkz : ¬ ((0 : Int) < (k : Int)) := by omega
          have hkz2 : decide ((k : Int) > 0) = false := decide_eq_false (by omega)
          have HD := hid (show DocAt w ps j (.slice bo j bc) S wr.drew from ⟨HX.out.low.drew, HX.out.own, HX.out.up, HX.out.perm⟩)
          have HUP := hid (HDONE.out wr.drew HD.out (fun a ha => by rw [show k = 0 by omega] at ha; cases ha))
          go_wp2_with fail
          go_big_region_o
          generalize wr.drew = w2 at HD HUP ⊢
          obtain ⟨e0, e1, e2, e3⟩ := (HV.out _ HD.out.low).cell j _ HQ.out
          simp only at e0 e1 e2 e3
          rcases own_cells HD.out.own with ⟨hb1, hb2, hb3⟩ | ⟨g2, hb1, hb2, hb3, hb4, hb5⟩
          · subst hb1
            subst hb2
            subst hb3
            obtain rfl : k = 0 := by omega
            simp only [Nat.zero_mul, Nat.add_zero] at e0 e1 e2 e3
            have HB := hid (show Below w2.heap.size w2 w2.drew from (Below.refl _ _).drew)
            have HX1 := hid (HB.out.alloc (Nat.le_refl _) (.cells #[] 51))
            have HX2 := hid (HX1.out.alloc HX1.out.size (rob pp (tx mm) kk (.slice ao an ac)))
            have HX4 := hid (HB.out.alloc (Nat.le_refl _) (rob pp (tx mm) kk (.slice ao an ac)))
            have HX3 := hid (HX4.out.alloc HX4.out.size (.cells #[] 51))
            have HW1 := hid (show (w2.drew.alloc (.cells #[] 51)).ownsRow w2.heap.size 51 4 (.slice (some ⟨w2.heap.size, 0, none⟩) 0 0) 0 [] from World.ownsRow_made w2.drew #[] 0 (Nat.le_refl _) (Nat.zero_le _) rfl)
            have HW2 := hid (HW1.out.alloc (rob pp (tx mm) kk (.slice ao an ac)))
            have HW3 := hid (show ((w2.drew.alloc (rob pp (tx mm) kk (.slice ao an ac))).alloc (.cells #[] 51)).ownsRow w2.heap.size 51 4 (.slice (some ⟨w2.heap.size + 1, 0, none⟩) 0 0) 0 [] from ⟨rfl, Or.inr ⟨w2.heap.size + 1, 0, #[], rfl, by omega, new_1 _ _ _, Nat.le_refl _, Nat.zero_le _, rfl, rfl⟩⟩)
            have HONE1 := hid (flatV_one (rs := rowOf ps (S.take 0)) (fun q hq => by
              obtain ⟨i, _, rfl⟩ := List.mem_map.1 hq
              cases hp : ps[i]? with
              | none => exact ⟨none, 0, 0, by simp [List.getD_eq_getElem?_getD, hp]⟩
              | some q0 => obtain ⟨a1, a2, a3, a4⟩ := HPV.out q0 (List.mem_of_getElem? hp); exact ⟨a1, a2, a3, by simp [List.getD_eq_getElem?_getD, hp, a4]⟩))
            have HONE2 := hid (show ∀ u ∈ ([.int .i64 pp, .string (tx mm), .int .i64 kk, .slice ao an ac] : List Value), u.oneCell' = true by simp [Value.oneCell'])
            have HKP := hid (show ∀ W : World, Below w2.heap.size w2 W → W.cell? ⟨g, o, none⟩ = some (.int .i64 pp) ∧ W.cell? ⟨g, o + 1, none⟩ = some (.string (tx mm)) ∧ W.cell? ⟨g, o + 2, none⟩ = some (.int .i64 kk) ∧ W.cell? ⟨g, o + 3, none⟩ = some (.slice ao an ac) from fun W hW => ⟨(hW.cell (block_old e0)).trans e0, (hW.cell (block_old e1)).trans e1, (hW.cell (block_old e2)).trans e2, (hW.cell (block_old e3)).trans e3⟩)
            have hS0 : S = [] := List.length_eq_zero_iff.1 (by rw [HD.out.len])
            have HS0 := hid hS0
            clear hS0
            have HSRC := hid (show ∀ X : World, Below w2.heap.size w2 X → ((.slice none 0 0 : Value) = .slice none 0 0 ∧ (0 : Nat) = 0 ∧ flatV (rowOf ps (S.take 0)) = []) ∨ ∃ ad c, (.slice none 0 0 : Value) = .slice (some ad) 0 c ∧ (flatV (rowOf ps (S.take 0))).length = 0 * 4 ∧ ∀ t u, (flatV (rowOf ps (S.take 0)))[t]? = some u → X.cell? (ad.add t) = some u from fun X _ => Or.inl ⟨rfl, rfl, rfl⟩)
            have K0 := HKP.out w2.drew HB.out
            clear e0 e1 e2 e3
            go_wp2_with fail
            go_region_held3 (fun W => W.cell? ⟨g, o, none⟩ = some (.int .i64 pp) ∧ W.cell? ⟨g, o + 1, none⟩ = some (.string (tx mm)) ∧ W.cell? ⟨g, o + 2, none⟩ = some (.int .i64 kk) ∧ W.cell? ⟨g, o + 3, none⟩ = some (.slice ao an ac)) (first | exact K6 | exact K0 | exact HKP.out _ HX1.out | exact HKP.out _ HX4.out | exact HKP.out _ HX2.out | exact HKP.out _ HX3.out) (first | (refine step_append_srcR _ rfl (.tmp 35) (.tmp 40) 36 rfl w2.heap.size 51 i0 (.agg #[.int .i64 0, .string (tx []), .int .i64 0, .slice none 0 0]) 4 56 Tryz.underlying36 HI.out HZ0.out HZ1.out HZ2.out rfl (by decide) (.slice (some ⟨w2.heap.size, 0, none⟩) 0 0) 0 [] rfl (by exact HW2.out) (.slice (some ⟨w2.heap.size + 1, 0, none⟩) 1 1) 1 [.int .i64 pp, .string (tx mm), .int .i64 kk, .slice ao an ac] rfl (Or.inr ⟨⟨w2.heap.size + 1, 0, none⟩, 1, rfl, rfl, World.news_of_block (new_1 _ _ _)⟩) HONE2.out (by unfold maxLen; omega) (by omega) (by exact HX2.out.size) ?_; intro v6 w6 hown6 hgr6; have L6 := hid (grown_own HX2.out HW2.out hgr6); have K6 := HKP.out w6 L6.out; have F6 := hid (NextAt_.mk (w2 := w2) L6.out hown6)) | (refine step_append_srcR _ rfl (.tmp 35) (.tmp 40) 36 rfl w2.heap.size 51 i0 (.agg #[.int .i64 0, .string (tx []), .int .i64 0, .slice none 0 0]) 4 56 Tryz.underlying36 HI.out HZ0.out HZ1.out HZ2.out rfl (by decide) (.slice (some ⟨w2.heap.size + 1, 0, none⟩) 0 0) 0 [] rfl (by exact HW3.out) (.slice (some ⟨w2.heap.size, 0, none⟩) 1 1) 1 [.int .i64 pp, .string (tx mm), .int .i64 kk, .slice ao an ac] rfl (Or.inr ⟨⟨w2.heap.size, 0, none⟩, 1, rfl, rfl, World.news_of_block (new_old _ _ (new_0 _ _))⟩) HONE2.out (by unfold maxLen; omega) (by omega) (by exact HX3.out.size) ?_; intro v6 w6 hown6 hgr6; have L6 := hid (grown_own HX3.out HW3.out hgr6); have K6 := HKP.out w6 L6.out; have F6 := hid (NextAt_.mk (w2 := w2) L6.out hown6)))
            all_goals (clear K0 K6)
            all_goals (obtain ⟨a6, c6, hv6⟩ := own_form F6.out.own; rw [Nat.zero_add] at hv6; subst hv6)
            all_goals (have HN7 := hid (show DocAt w ps 1 (.slice a6 1 c6) (S.take 0 ++ 0 :: S.drop 0) w6 from HD.out.next HQ.out hk HUP.out F6.out.low (by (have q := F6.out.own; rw [HS0.out]; exact q))))
            all_goals (have HF7 := hid (show w6.ownsRow w2.heap.size 51 4 (.slice a6 1 c6) 1 [.int .i64 pp, .string (tx mm), .int .i64 kk, .slice ao an ac] from F6.out.own))
            all_goals (clear F6)
            all_goals (go_wp2_with (first | (at_builtin; refine wpList_append_own_none rfl _ _ 36 rfl w2.heap.size 51 i0 4 Tryz.underlying36 HI.out (.slice a6 1 c6) 1 [.int .i64 pp, .string (tx mm), .int .i64 kk, .slice ao an ac] rfl HF7.out rfl ?_)))
            all_goals go_roundw
            all_goals (first | exact ⟨1, a6, c6, _, by omega, by go_num, rfl, HN7⟩ | (simp [intOf]; omega))
          · subst hb1
            have HC5 := hid hb5
            have hkc : (k : Int) ≤ (bc : Int) := by omega
            have hk00 : (0 : Int) ≤ (k : Int) := by omega
            clear hb5
            have HB := hid (show Below w2.heap.size w2 w2.drew from (Below.refl _ _).drew)
            have HX1 := hid (HB.out.alloc (Nat.le_refl _) (.cells #[] 51))
            have HX2 := hid (HX1.out.alloc HX1.out.size (rob pp (tx mm) kk (.slice ao an ac)))
            have HX4 := hid (HB.out.alloc (Nat.le_refl _) (rob pp (tx mm) kk (.slice ao an ac)))
            have HX3 := hid (HX4.out.alloc HX4.out.size (.cells #[] 51))
            have HW1 := hid (show (w2.drew.alloc (.cells #[] 51)).ownsRow w2.heap.size 51 4 (.slice (some ⟨w2.heap.size, 0, none⟩) 0 0) 0 [] from World.ownsRow_made w2.drew #[] 0 (Nat.le_refl _) (Nat.zero_le _) rfl)
            have HW2 := hid (HW1.out.alloc (rob pp (tx mm) kk (.slice ao an ac)))
            have HW3 := hid (show ((w2.drew.alloc (rob pp (tx mm) kk (.slice ao an ac))).alloc (.cells #[] 51)).ownsRow w2.heap.size 51 4 (.slice (some ⟨w2.heap.size + 1, 0, none⟩) 0 0) 0 [] from ⟨rfl, Or.inr ⟨w2.heap.size + 1, 0, #[], rfl, by omega, new_1 _ _ _, Nat.le_refl _, Nat.zero_le _, rfl, rfl⟩⟩)
            have HONE1 := hid (flatV_one (rs := rowOf ps (S.take k)) (fun q hq => by
              obtain ⟨i, _, rfl⟩ := List.mem_map.1 hq
              cases hp : ps[i]? with
              | none => exact ⟨none, 0, 0, by simp [List.getD_eq_getElem?_getD, hp]⟩
              | some q0 => obtain ⟨a1, a2, a3, a4⟩ := HPV.out q0 (List.mem_of_getElem? hp); exact ⟨a1, a2, a3, by simp [List.getD_eq_getElem?_getD, hp, a4]⟩))
            have HONE2 := hid (show ∀ u ∈ ([.int .i64 pp, .string (tx mm), .int .i64 kk, .slice ao an ac] : List Value), u.oneCell' = true by simp [Value.oneCell'])
            have HKP := hid (show ∀ W : World, Below w2.heap.size w2 W → W.cell? ⟨g, o + j * 4, none⟩ = some (.int .i64 pp) ∧ W.cell? ⟨g, o + j * 4 + 1, none⟩ = some (.string (tx mm)) ∧ W.cell? ⟨g, o + j * 4 + 2, none⟩ = some (.int .i64 kk) ∧ W.cell? ⟨g, o + j * 4 + 3, none⟩ = some (.slice ao an ac) from fun W hW => ⟨(hW.cell (block_old e0)).trans e0, (hW.cell (block_old e1)).trans e1, (hW.cell (block_old e2)).trans e2, (hW.cell (block_old e3)).trans e3⟩)
            have HSRC := hid (show ∀ X : World, Below w2.heap.size w2 X → ((.slice (some ⟨g2, 0, none⟩) k bc : Value) = .slice none 0 0 ∧ k = 0 ∧ flatV (rowOf ps (S.take k)) = []) ∨ ∃ ad c, (.slice (some ⟨g2, 0, none⟩) k bc : Value) = .slice (some ad) k c ∧ (flatV (rowOf ps (S.take k))).length = k * 4 ∧ ∀ t u, (flatV (rowOf ps (S.take k)))[t]? = some u → X.cell? (ad.add t) = some u from fun X hX => by
              refine Or.inr ⟨⟨g2, 0, none⟩, bc, rfl, by rw [flatV_len, rowOf_len, List.length_take, HD.out.len]; omega, fun t u hu => ?_⟩
              rw [addr_add5, Nat.zero_add, hX.cell (by exact hb4)]
              refine HC5.out t u ?_
              have e : rowOf ps S = rowOf ps (S.take k) ++ rowOf ps (S.drop k) := by rw [← rowOf_append, List.take_append_drop]
              rw [e, flatV_append, List.getElem?_append_left (List.getElem?_eq_some_iff.1 hu).1]
              exact hu)
            have HSR2 := hid (show ∀ X : World, Below w2.heap.size w2 X → (k < bc → (((.slice (some ⟨g2, k * 4, none⟩) (j - k) (bc - k) : Value) = .slice none 0 0 ∧ j - k = 0 ∧ flatV (rowOf ps (S.drop k)) = []) ∨ ∃ ad c, (.slice (some ⟨g2, k * 4, none⟩) (j - k) (bc - k) : Value) = .slice (some ad) (j - k) c ∧ (flatV (rowOf ps (S.drop k))).length = (j - k) * 4 ∧ ∀ t u, (flatV (rowOf ps (S.drop k)))[t]? = some u → X.cell? (ad.add t) = some u)) ∧ (¬ k < bc → ∀ (ad : Addr) (c : Nat), (((.slice (some ad) (j - k) c : Value) = .slice none 0 0 ∧ j - k = 0 ∧ flatV (rowOf ps (S.drop k)) = []) ∨ ∃ ad' c', (.slice (some ad) (j - k) c : Value) = .slice (some ad') (j - k) c' ∧ (flatV (rowOf ps (S.drop k))).length = (j - k) * 4 ∧ ∀ t u, (flatV (rowOf ps (S.drop k)))[t]? = some u → X.cell? (ad'.add t) = some u)) from fun X hX => by
              have hl : (flatV (rowOf ps (S.drop k))).length = (j - k) * 4 := by rw [flatV_len, rowOf_len, List.length_drop, HD.out.len]
              refine ⟨fun _ => Or.inr ⟨⟨g2, k * 4, none⟩, bc - k, rfl, hl, fun t u hu => ?_⟩, fun hkb ad c => Or.inr ⟨ad, c, rfl, hl, fun t u hu => ?_⟩⟩
              · rw [addr_add5, hX.cell (by exact hb4)]
                refine HC5.out _ u ?_
                have e : rowOf ps S = rowOf ps (S.take k) ++ rowOf ps (S.drop k) := by rw [← rowOf_append, List.take_append_drop]
                have hl1 : (flatV (rowOf ps (S.take k))).length = k * 4 := by rw [flatV_len, rowOf_len, List.length_take, HD.out.len, Nat.min_eq_left hk]
                rw [e, flatV_append, List.getElem?_append_right (by omega), hl1, Nat.add_sub_cancel_left]
                exact hu
              · have := (List.getElem?_eq_some_iff.1 hu).1
                omega)
            have HONE3 := hid (flatV_one (rs := rowOf ps (S.drop k)) (fun q hq => by
              obtain ⟨i, _, rfl⟩ := List.mem_map.1 hq
              cases hp : ps[i]? with
              | none => exact ⟨none, 0, 0, by simp [List.getD_eq_getElem?_getD, hp]⟩
              | some q0 => obtain ⟨a1, a2, a3, a4⟩ := HPV.out q0 (List.mem_of_getElem? hp); exact ⟨a1, a2, a3, by simp [List.getD_eq_getElem?_getD, hp, a4]⟩))
            have K0 := HKP.out w2.drew HB.out
            clear e0 e1 e2 e3
            go_wp2_with fail
            go_region_held3 (fun W => W.cell? ⟨g, o + j * 4, none⟩ = some (.int .i64 pp) ∧ W.cell? ⟨g, o + j * 4 + 1, none⟩ = some (.string (tx mm)) ∧ W.cell? ⟨g, o + j * 4 + 2, none⟩ = some (.int .i64 kk) ∧ W.cell? ⟨g, o + j * 4 + 3, none⟩ = some (.slice ao an ac)) (first | exact K6 | exact K5 | exact K0 | exact HKP.out _ HX1.out | exact HKP.out _ HX4.out | exact HKP.out _ HX2.out | exact HKP.out _ HX3.out | exact HKP.out _ (L5.out.alloc L5.out.size (rob pp (tx mm) kk (.slice ao an ac)))) (first | (refine step_append_srcR _ (by rfl) (.tmp 35) (.tmp 40) 36 (by rfl) w2.heap.size 51 i0 (.agg #[.int .i64 0, .string (tx []), .int .i64 0, .slice none 0 0]) 4 56 Tryz.underlying36 HI.out HZ0.out HZ1.out HZ2.out rfl (by decide) v5 (0 + k) ([] ++ (flatV (rowOf ps (S.take k)))) (by rfl) (by exact hown5) (.slice (some ⟨w2.heap.size + 1, 0, none⟩) 1 1) 1 [.int .i64 pp, .string (tx mm), .int .i64 kk, .slice ao an ac] (by rfl) (Or.inr ⟨⟨w2.heap.size + 1, 0, none⟩, 1, rfl, rfl, World.news_of_block N5b⟩) HONE2.out (by unfold maxLen; omega) (by omega) (by exact (L5.out).size) ?_; intro v6 w6 hown6 hgr6; have L6 := hid (grown_own (L5.out) (hown5) hgr6); have K6 := HKP.out w6 L6.out; have F6 := hid (NextAt_.mk (w2 := w2) L6.out hown6)) | (refine step_append_srcR _ (by rfl) (.tmp 35) (.tmp 40) 36 (by rfl) w2.heap.size 51 i0 (.agg #[.int .i64 0, .string (tx []), .int .i64 0, .slice none 0 0]) 4 56 Tryz.underlying36 HI.out HZ0.out HZ1.out HZ2.out rfl (by decide) v5 (0 + k) ([] ++ (flatV (rowOf ps (S.take k)))) (by rfl) (by exact hown5) (.slice (some ⟨w2.heap.size, 0, none⟩) 1 1) 1 [.int .i64 pp, .string (tx mm), .int .i64 kk, .slice ao an ac] (by rfl) (Or.inr ⟨⟨w2.heap.size, 0, none⟩, 1, rfl, rfl, World.news_of_block N5c⟩) HONE2.out (by unfold maxLen; omega) (by omega) (by exact (L5.out).size) ?_; intro v6 w6 hown6 hgr6; have L6 := hid (grown_own (L5.out) (hown5) hgr6); have K6 := HKP.out w6 L6.out; have F6 := hid (NextAt_.mk (w2 := w2) L6.out hown6)) | (refine step_append_srcR _ (by rfl) (.tmp 35) (.tmp 40) 36 (by rfl) w2.heap.size 51 i0 (.agg #[.int .i64 0, .string (tx []), .int .i64 0, .slice none 0 0]) 4 56 Tryz.underlying36 HI.out HZ0.out HZ1.out HZ2.out rfl (by decide) v5 (0 + k) ([] ++ (flatV (rowOf ps (S.take k)))) (by rfl) (by exact hown5.alloc (rob pp (tx mm) kk (.slice ao an ac))) (.slice (some ⟨w5.heap.size, 0, none⟩) 1 1) 1 [.int .i64 pp, .string (tx mm), .int .i64 kk, .slice ao an ac] (by rfl) (Or.inr ⟨⟨w5.heap.size, 0, none⟩, 1, rfl, rfl, World.news_of_block (new_0 w5 (rob pp (tx mm) kk (.slice ao an ac)))⟩) HONE2.out (by unfold maxLen; omega) (by omega) (by exact (L5.out.alloc L5.out.size (rob pp (tx mm) kk (.slice ao an ac))).size) ?_; intro v6 w6 hown6 hgr6; have L6 := hid (grown_own (L5.out.alloc L5.out.size (rob pp (tx mm) kk (.slice ao an ac))) (hown5.alloc (rob pp (tx mm) kk (.slice ao an ac))) hgr6); have K6 := HKP.out w6 L6.out; have F6 := hid (NextAt_.mk (w2 := w2) L6.out hown6)) | (refine step_append_srcR _ (by rfl) (.tmp 31) (.tmp 34) 36 (by rfl) w2.heap.size 51 i0 (.agg #[.int .i64 0, .string (tx []), .int .i64 0, .slice none 0 0]) 4 56 Tryz.underlying36 HI.out HZ0.out HZ1.out HZ2.out rfl (by decide) (.slice (some ⟨w2.heap.size, 0, none⟩) 0 0) 0 [] (by rfl) (by exact HW2.out) (.slice (some ⟨g2, 0, none⟩) k bc) k (flatV (rowOf ps (S.take k))) (by rfl) (HSRC.out _ HX2.out) HONE1.out (by unfold maxLen; omega) (by omega) (by exact HX2.out.size) ?_; intro v5 w5 hown5 hgr5; have L5 := hid (grown_own HX2.out HW2.out hgr5); have K5 := HKP.out w5 L5.out; have N5b : w5.heap[w2.heap.size + 1]? = some (rob pp (tx mm) kk (.slice ao an ac)) := (hgr5.block _ (by simp) (by simp [Value.ownBlock])).trans (new_1 _ _ _)) | (refine step_append_srcR _ (by rfl) (.tmp 31) (.tmp 34) 36 (by rfl) w2.heap.size 51 i0 (.agg #[.int .i64 0, .string (tx []), .int .i64 0, .slice none 0 0]) 4 56 Tryz.underlying36 HI.out HZ0.out HZ1.out HZ2.out rfl (by decide) (.slice (some ⟨w2.heap.size + 1, 0, none⟩) 0 0) 0 [] (by rfl) (by exact HW3.out) (.slice (some ⟨g2, 0, none⟩) k bc) k (flatV (rowOf ps (S.take k))) (by rfl) (HSRC.out _ HX3.out) HONE1.out (by unfold maxLen; omega) (by omega) (by exact HX3.out.size) ?_; intro v5 w5 hown5 hgr5; have L5 := hid (grown_own HX3.out HW3.out hgr5); have K5 := HKP.out w5 L5.out; have N5c : w5.heap[w2.heap.size]? = some (rob pp (tx mm) kk (.slice ao an ac)) := (hgr5.block _ (by simp; omega) (by simp [Value.ownBlock])).trans (new_old _ _ (new_0 _ _))) | (refine step_append_srcR _ (by rfl) (.tmp 31) (.tmp 34) 36 (by rfl) w2.heap.size 51 i0 (.agg #[.int .i64 0, .string (tx []), .int .i64 0, .slice none 0 0]) 4 56 Tryz.underlying36 HI.out HZ0.out HZ1.out HZ2.out rfl (by decide) (.slice (some ⟨w2.heap.size, 0, none⟩) 0 0) 0 [] (by rfl) (by exact HW1.out) (.slice (some ⟨g2, 0, none⟩) k bc) k (flatV (rowOf ps (S.take k))) (by rfl) (HSRC.out _ HX1.out) HONE1.out (by unfold maxLen; omega) (by omega) (by exact HX1.out.size) ?_; intro v5 w5 hown5 hgr5; have L5 := hid (grown_own HX1.out HW1.out hgr5); have K5 := HKP.out w5 L5.out; skip))
            all_goals (clear K0)
            all_goals (try clear K5)
            all_goals (try clear K6)
            all_goals (obtain ⟨a6, c6, hv6⟩ := own_form F6.out.own; rw [Nat.zero_add] at hv6; subst hv6)
            all_goals (have O6 := hid (show w6.ownsRow w2.heap.size 51 4 (.slice a6 (k + 1) c6) (k + 1) ((flatV (rowOf ps (S.take k))) ++ [.int .i64 pp, .string (tx mm), .int .i64 kk, .slice ao an ac]) by (have q := F6.out.own; simp only [Nat.zero_add, List.nil_append] at q; exact q)))
            all_goals (have LL6 := hid F6.out.low)
            all_goals (clear F6 L5 hown5 hgr5)
            all_goals (rcases Nat.lt_or_eq_of_le (show k ≤ bc by omega) with hkb | hkb)
            all_goals (have hkI : (k : Int) ≤ (j : Int) := by omega)
            all_goals (have hjI : (j : Int) ≤ (bc : Int) := by omega)
            all_goals (have SRC2 := hid (HSR2.out w6 LL6.out))
            all_goals (first | subst hkb | skip)
            all_goals (have hsz6 := LL6.out.size)
            all_goals (go_wp2_with (first | (at_builtin; refine wpList_append_srcR _ rfl _ _ 36 rfl w2.heap.size 51 i0 (.agg #[.int .i64 0, .string (tx []), .int .i64 0, .slice none 0 0]) 4 56 Tryz.underlying36 HI.out HZ0.out HZ1.out HZ2.out rfl (by decide) (.slice a6 (k + 1) c6) (k + 1) ((flatV (rowOf ps (S.take k))) ++ [.int .i64 pp, .string (tx mm), .int .i64 kk, .slice ao an ac]) rfl O6.out _ (j - k) (flatV (rowOf ps (S.drop k))) rfl (by first | exact SRC2.out.1 hkb | exact SRC2.out.2 (by omega) _ _) HONE3.out (by unfold maxLen; omega) (by omega) (by omega) ?_) | (at_builtin; refine wpList_append_srcR _ rfl _ _ 36 rfl w2.heap.size 51 i0 (.agg #[.int .i64 0, .string (tx []), .int .i64 0, .slice none 0 0]) 4 56 Tryz.underlying36 HI.out HZ0.out HZ1.out HZ2.out rfl (by decide) (.slice a6 (k + 1) c6) (k + 1) ((flatV (rowOf ps (S.take k))) ++ [.int .i64 pp, .string (tx mm), .int .i64 kk, .slice ao an ac]) rfl O6.out (.slice (some ⟨g2, 0, none⟩) 0 0) 0 [] rfl (Or.inr ⟨⟨g2, 0, none⟩, 0, rfl, rfl, fun t u hu => by simp at hu⟩) (by simp) (by unfold maxLen; omega) (by omega) (by omega) ?_)))
            all_goals (intro v7 w7 hown7 hgr7)
            all_goals (have hown8 : w7.ownsRow w2.heap.size 51 4 v7 (k + 1 + (j - k)) ((flatV (rowOf ps (S.take k))) ++ [.int .i64 pp, .string (tx mm), .int .i64 kk, .slice ao an ac] ++ flatV (rowOf ps (S.drop k))) := by (first | (simpa using hown7) | (have q2 : j - k = 0 := (by omega); have q3 : flatV (rowOf ps (S.drop k)) = [] := (by rw [List.drop_of_length_le (by rw [HD.out.len]; omega)]; rfl); rw [q3, q2]; simpa using hown7)))
            all_goals (have HN7 := hid (HD.out.next HQ.out hk HUP.out (grown_own LL6.out O6.out hgr7) hown8))
            all_goals (clear hown7)
            all_goals (obtain ⟨a7, c7, hv7⟩ := own_form hown8; subst hv7)
            all_goals (rw [show k + 1 + (j - k) = j + 1 by omega] at HN7 ⊢)
            all_goals (clear hown8 hgr7)
            all_goals go_wp2
            all_goals go_roundw
            all_goals (first | exact ⟨j + 1, a7, c7, _, by omega, by go_num, rfl, HN7⟩ | (simp [intOf]; omega))
    · have hI : ¬ ((j : Int) < (n : Int)) := by omega
      have hjn : j = n := by omega
      subst hjn
      go_wp2
      go_ret
      exact ⟨bo, bc, rfl, S, HA.out⟩
end Go.Proofs.YtemmhingmeinjaaGreatDoor
namespace Go.Proofs.YtemmhingmeinjaaGreatDoor
open Go.RowKit

end Go.Proofs.YtemmhingmeinjaaGreatDoor
