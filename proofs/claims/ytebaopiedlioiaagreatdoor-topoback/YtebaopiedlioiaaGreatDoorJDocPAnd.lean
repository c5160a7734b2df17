/-
  The document's name, known, taken: what a parser of topologies has already.
  The document's list of names.
  The document's reader of a line: Word, Fail, Must (as in UDocB, for seats without package rules).
  The document's put: a text among others, rising, once.
-/
import Derived.Test.YtebaopiedlioiaaGreatDoorJDocNAnd
import Derived.Test.YtebaopiedlioiaaGreatDoorJInsAnd
import Derived.Laws.AppendOwnNone
import Derived.Deep.AppendLies
import Derived.Test.YtebaopiedlioiaaGreatDoorJRdIAnd
import Derived.Deep.LoopGhost
namespace Go.Proofs.YtebaopiedlioiaaGreatDoor
open Go.RowKit

theorem pos_is {s : List UInt8} : ∀ {l : List (List UInt8)} {i : Nat}, i ≤ l.length → (∀ (t : Nat) (x : List UInt8), t < i → l[t]? = some x → x < s) → (∀ x, l[i]? = some x → ¬ x < s) → To.pos s l = i
  | [], i, h, _, _ => by simp at h; rw [h]; rfl
  | a :: r, 0, _, _, k => by
    unfold To.pos
    rw [if_neg (k a rfl)]
  | a :: r, i + 1, h, h1, k => by
    unfold To.pos
    rw [if_pos (h1 0 a (by omega) rfl), pos_is (by simpa using h) (fun t x ht hx => h1 (t + 1) x (by omega) (by simpa using hx)) (fun x hx => k x (by simpa using hx))]
theorem Tryz.infoStrP : (Tryz.prog.info? 9).map (fun i => (i.zero, i.size, i.bytes)) = some (some (.string (tx [])), 1, 16) := by kernel_rfl
theorem own_txsP {w : World} {B : Nat} {v : Value} {zs : List (List UInt8)} (h : w.ownsRow B 9 1 v zs.length (svs zs)) : Txs w v zs := by
  rcases h.2 with ⟨e, h0⟩ | ⟨g, cap, cur, e, hB, hh, hn, _, _, ht⟩
  · have : zs = [] := List.length_eq_zero_iff.1 h0
    subst this
    exact ⟨none, 0, e, .inl rfl⟩
  · refine ⟨_, cap, e, ?_⟩
    by_cases hz : zs = []
    · exact .inl hz
    · refine .inr ⟨g, 0, rfl, lt_of_block hh, fun i hi => ?_⟩
      rw [Nat.zero_add, cell_at hh, ← Array.getElem?_toList]
      have : (cur.toList.take (zs.length * 1))[i]? = some (.string (tx (zs.getD i []))) := by
        rw [ht]; unfold svs; rw [List.getElem?_map, List.getD_eq_getElem?_getD, List.getElem?_eq_getElem hi]; rfl
      rw [List.getElem?_take, if_pos (by omega)] at this
      exact this

theorem growRefl (w : World) (row : Option Nat) : w.grownBy w row := ⟨rfl, rfl, rfl, Nat.le_refl _, fun _ _ _ => rfl⟩
theorem wpList_append_srcJ {P : Program} (w : World) {ops : Array Oper} {rest : List Oper} {o : Oper} {a : Act} {Q : Exit → Act → World → Prop} (hgd : o.guard = none) (s x : Operand) (t : TypeId)
    (ho : o.op = .call { callee := .builtin .append, args := #[s, x], argTypes := #[t, t] })
    (base : Nat) (e : TypeId) (i : TypeInfo) (z : Value) (size bytes : Nat) (ht : P.underlying t = some (.slice e)) (hi : P.info? e = some i) (hz : i.zero = some z)
    (hsize : i.size = size) (hby : i.bytes = bytes) (hzs : z.cells.size = size) (hsz : 0 < size)
    (v : Value) (n : Nat) (xs : List Value) (hs : a.eval s = v) (hown : w.ownsRow base e size v n xs)
    (vx : Value) (m : Nat) (news : List Value) (hx : a.eval x = vx) (hsrc : (vx = .slice none 0 0 ∧ m = 0 ∧ news = []) ∨ ∃ ad c, vx = .slice (some ad) m c ∧ news.length = m * size ∧ ∀ j u, news[j]? = some u → w.cell? (ad.add j) = some u) (h1 : ∀ u ∈ news, u.oneCell' = true)
    (h63 : n + m ≤ maxLen) (hbytes : (n + m) * bytes ≤ 140737488355328) (hbase : base ≤ w.heap.size)
    (h : ∀ v' w', w'.ownsRow base e size v' (n + m) (xs ++ news) → w.grownBy w' v.ownBlock → wpList P ops Q rest (a.put o.dst v') w') :
    wpList P ops Q (o :: rest) a w := by
  rcases hsrc with ⟨rfl, rfl, rfl⟩ | ⟨ad, c, rfl, hl, hc⟩
  · refine wpList_append_own_none hgd s x t ho base e i size ht hi v n xs hs hown hx ?_
    exact h v w (by simpa using hown) (growRefl _ _)
  · refine wpList_append_own_at w hgd s x t ho base e i z size bytes ht hi hz hsize hby hzs hsz v n xs hs hown ad m c news hx hl hc h1 h63 hbytes hbase ?_
    intro v' w' h1 h2 _ _
    exact h v' w' h1 h2

theorem own_weakP {w : World} {B B' : Nat} {v : Value} {n : Nat} {xs : List Value} (h : w.ownsRow B' 9 1 v n xs) (hB : B ≤ B') : w.ownsRow B 9 1 v n xs :=
  ⟨h.1, h.2.imp id fun ⟨g, cap, cur, e, hb, r⟩ => ⟨g, cap, cur, e, Nat.le_trans hB hb, r⟩⟩
/-- An empty row of one's own, just made. -/
theorem own_madeP (w : World) : (w.alloc (.cells #[] 9)).ownsRow w.heap.size 9 1 (.slice (some ⟨w.heap.size, 0, none⟩) 0 0) 0 [] :=
  ⟨rfl, .inr ⟨w.heap.size, 0, #[], rfl, Nat.le_refl _, new_0 _ _, Nat.le_refl _, by decide, rfl, rfl⟩⟩
theorem svs_oneP (l : List (List UInt8)) : ∀ u ∈ svs l, u.oneCell' = true := fun u hu => by
  unfold svs at hu
  obtain ⟨a, -, rfl⟩ := List.mem_map.1 hu
  rfl
/-- A row that grew, and what lies below it. -/
theorem grew_belowP {w a b : World} {W0 : Nat} {v : Value} {n : Nat} {xs : List Value} (hW : W0 ≤ w.heap.size) (hb : Below W0 w a) (ho : a.ownsRow W0 9 1 v n xs) (hg : a.grownBy b v.ownBlock) : Below W0 w b :=
  ⟨hg.os.trans hb.os, hg.tape.trans hb.tape, hg.output.trans hb.output, Nat.le_trans hb.size hg.size, fun i hi => by
    rw [hg.block i (by have := hb.size; omega) (fun r => by have := (ho.lt i r.symm).1; omega), hb.block i hi]⟩

set_option maxRecDepth 20000 in
set_option maxHeartbeats 2000000 in
theorem Rput_any {w : World} {B : Nat} {v : Value} {zs : List (List UInt8)} {s : List UInt8} (h : w.ownsRow B 9 1 v zs.length (svs zs)) (hB : B ≤ w.heap.size) (hn : zs.length ≤ 1000) :
    Calls Tryz.prog 101 #[v, .string (tx s)] w fun e w' => ∃ v', e = .returned v' ∧ w'.ownsRow B 9 1 v' (Ru.put zs s).length (svs (Ru.put zs s)) ∧ Below w.heap.size w w' := by
  obtain ⟨i0, hi, hz0, hz1, hz2⟩ := info_parts Tryz.infoStrP
  have HI := hid hi
  have HZ0 := hid hz0
  have HZ1 := hid hz1
  have HZ2 := hid hz2
  clear hi hz0 hz1 hz2
  obtain ⟨n, hnn⟩ : ∃ n, n = zs.length := ⟨_, rfl⟩
  have HN := hid hnn
  have HT := hid (own_txsP h)
  have HPL := hid (fun W (hb : Below w.heap.size w W) => Rplace_any (t := s) (HT.out.below hb) (Nat.le_trans hn (by decide)))
  have hpz := plZ_neg s zs
  obtain ⟨pz, hpz'⟩ : ∃ z, z = plZ s zs := ⟨_, rfl⟩
  rw [← hpz'] at HPL hpz
  have HP1 := hid (HPL.out w (Below.refl _ _))
  have HOW := hid h
  obtain ⟨W0, hW0⟩ : ∃ W0, W0 = w.heap.size := ⟨_, rfl⟩
  have HW0 := hid hW0
  clear hpz' HPL
  by_cases hm : s ∈ zs
  · have hc : decide (pz < 0) = false := by rw [hpz, List.contains_iff_mem.2 hm]; rfl
    have hp0 : 0 ≤ pz := by have := of_decide_eq_false hc; omega
    have HE := hid (show w.ownsRow B 9 1 v (Ru.put zs s).length (svs (Ru.put zs s)) from by
      rw [To.put_old hm]; exact HOW.out)
    obtain ⟨ao, cap, hv⟩ := own_formJ h
    subst hv
    rw [← hnn] at HP1 HE ⊢
    clear hm hc hpz h hnn hW0
    go_enter Tryz.func101, Tryz.ntmps101
    go_wp2_with fail
    refine HP1.out.mono ?_
    rintro en w2 ⟨rfl, hw2⟩
    obtain rfl : w = w2 := hw2.symm
    go_wp2
    go_ret
    exact ⟨_, rfl, HE.out, Below.refl _ _⟩
  · have hc : decide (pz < 0) = true := by rw [hpz, Bool.eq_false_iff.2 (fun q => hm (List.contains_iff_mem.1 q))]; rfl
    have hp0 : pz < 0 := of_decide_eq_true hc
    have hp1 : ¬ 0 ≤ pz := by omega
    have HPN := hid (To.put_new hm)
    have HM0 := hid (own_madeP w)
    have HB0 := hid (show Below w.heap.size w (w.alloc (.cells #[] 9)) from (Below.refl _ _).alloc (Nat.le_refl _) _)
    rw [← hW0] at HM0 HB0
    have hWle : W0 ≤ w.heap.size := Nat.le_of_eq hW0
    have HWB := hid (show B ≤ W0 from by rw [hW0]; exact hB)
    have HFN := hid (fun (j : Nat) (hp : To.pos s zs = j) (v3 : Value) (w3 : World) (n3 : Nat) (h3 : w3.ownsRow W0 9 1 v3 n3 (svs (zs.take j) ++ .string (tx s) :: svs (zs.drop j))) => (show w3.ownsRow B 9 1 v3 (Ru.put zs s).length (svs (Ru.put zs s)) from by
      have e : svs (zs.take j) ++ .string (tx s) :: svs (zs.drop j) = svs (Ru.put zs s) := by
        rw [HPN.out, hp]; unfold svs; simp
      rw [e] at h3
      have hl : n3 = (Ru.put zs s).length := by have := h3.1; unfold svs at this; simp at this; omega
      rw [hl] at h3
      exact own_weakP h3 HWB.out))
    rcases h.2 with ⟨e, h0⟩ | ⟨g, cap, cur, e, hBg, hh, hnc, -, -, ht⟩
    · subst e
      have hz : zs = [] := List.length_eq_zero_iff.1 h0
      subst hz
      have hn0 : n = 0 := hnn
      subst hn0
      clear hm hc hpz h hnn h0 hW0 hB
      go_enter Tryz.func101, Tryz.ntmps101
      go_wp2_with fail
      refine HP1.out.mono ?_
      rintro en w2 ⟨rfl, hw2⟩
      obtain rfl : w = w2 := hw2.symm
      go_wp2_with fail
      go_loopw [5] (fun i wr => ∃ j : Nat, j ≤ 0 ∧ i = .int .i64 j ∧ Hid (∀ (t : Nat) (x : List UInt8), t < j → ([] : List (List UInt8))[t]? = some x → x < s) ∧ Hid (wr = w)) (fun i _ => 0 - (intOf i).toNat)
      case atStart => exact ⟨0, Nat.zero_le _, rfl, hid fun t x h => absurd h (Nat.not_lt_zero _), hid rfl⟩
      case round =>
        obtain ⟨j, hj, rfl, hA, hW⟩ := hrel
        obtain rfl := hW.out
        have hj0 : j = 0 := by omega
        subst hj0
        have HFIN := hid (HFN.out 0 rfl)
        go_upto_region 6 with fail
        go_wp2_with (first | (at_builtin; refine wpList_append_srcJ _ rfl (.tmp 26) (.tmp 29) 47 rfl W0 9 i0 (.string (tx [])) 1 16 Tryz.underlying47 HI.out HZ0.out HZ1.out HZ2.out rfl (by decide) (.slice (some ⟨W0, 0, none⟩) 0 0) 0 [] (by rw [HW0.out]; rfl) HM0.out _ (0) (svs (([] : List (List UInt8)).take 0)) rfl (.inl ⟨rfl, rfl, rfl⟩) (svs_oneP _) (by unfold maxLen; omega) (by omega) (by have := HB0.out.size; omega) ?_))
        intro v1 w1 hown1 hg1
        have HB1 := hid (grew_belowP hWle HB0.out HM0.out hg1)
        (try rw [Nat.zero_add] at hown1); (try rw [List.nil_append] at hown1)
        have HO1 := hid hown1
        clear hown1 hg1
        obtain ⟨a1, c1, rfl⟩ := own_formJ HO1.out
        have HO1a := hid (fun (ob : Obj) => (show (w1.alloc ob).ownsRow W0 9 1 (.slice a1 (0) c1) (0) (svs (([] : List (List UInt8)).take 0)) from own_sameJ HO1.out fun i r => by rw [Below.heap_alloc _ _ _ (HO1.out.lt i r).2]))
        have HB1a := hid (fun (ob : Obj) => (show Below W0 wr (w1.alloc ob) from HB1.out.alloc (by have := HB1.out.size; omega) _))
        go_wp2_with (first | (at_builtin; refine wpList_append_srcJ _ rfl (.tmp 31) (.tmp 33) 47 rfl W0 9 i0 (.string (tx [])) 1 16 Tryz.underlying47 HI.out HZ0.out HZ1.out HZ2.out rfl (by decide) (.slice a1 (0) c1) (0) (svs (([] : List (List UInt8)).take 0)) rfl (HO1a.out _) _ 1 [.string (tx s)] rfl (.inr ⟨⟨w1.heap.size, 0, none⟩, 1, rfl, rfl, World.news_of_block (new_0 w1 _)⟩) (by simp [Value.oneCell']) (by unfold maxLen; omega) (by omega) (by have := (HB1a.out (.cells #[.string (tx s)] 9)).size; omega) ?_))
        intro v2 w2 hown2 hg2
        have HB2 := hid (grew_belowP hWle (HB1a.out _) (HO1a.out _) hg2)
        have HO2 := hid hown2
        clear hown2 hg2
        obtain ⟨a2, c2, rfl⟩ := own_formJ HO2.out
        go_wp2_with (first | (at_builtin; refine wpList_append_srcJ _ rfl (.tmp 35) (.tmp 38) 47 rfl W0 9 i0 (.string (tx [])) 1 16 Tryz.underlying47 HI.out HZ0.out HZ1.out HZ2.out rfl (by decide) (.slice a2 (0 + 1) c2) (0 + 1) (svs (([] : List (List UInt8)).take 0) ++ [.string (tx s)]) rfl HO2.out _ (0) ([]) rfl (.inl ⟨rfl, rfl, rfl⟩) (by simp) (by unfold maxLen; omega) (by omega) (by have := HB2.out.size; omega) ?_))
        intro v3 w3 hown3 hg3
        have HB3 := hid (grew_belowP hWle HB2.out HO2.out hg3)
        have HO3 := hid hown3
        clear hown3 hg3
        go_wp2
        go_ret
        exact ⟨_, rfl, HFIN.out _ _ _ HO3.out, HW0.out ▸ HB3.out⟩
    · subst e
      have hcell : ∀ (i : Nat) (x : List UInt8), zs[i]? = some x → w.cell? ⟨g, i, none⟩ = some (.string (tx x)) := fun i x hx => by
        have hi := (List.getElem?_eq_some_iff.1 hx).1
        rw [cell_at hh, ← Array.getElem?_toList]
        have : (cur.toList.take (zs.length * 1))[i]? = some (.string (tx x)) := by
          rw [ht]; unfold svs; rw [List.getElem?_map, hx]; rfl
        rw [List.getElem?_take, if_pos (by omega)] at this
        exact this
      have hgl : g < W0 := by rw [hW0]; exact lt_of_block hh
      have HCE := hid hcell
      have HTL := hid (fun (j : Nat) (hj : j ≤ n) => (show (svs (zs.take j)).length = j * 1 from by unfold svs; rw [List.length_map, List.length_take]; omega))
      have HSR := hid (fun (W : World) (hb : Below W0 w W) (i : Nat) (x : List UInt8) (hx : zs[i]? = some x) => (World.cell?_of_block (a := ⟨g, i, none⟩) (hb.block g hgl)).trans (hcell i x hx))
      have hncI : n ≤ cap := by rw [hnn]; exact hnc
      have hn2 : n ≤ 1000 := by rw [hnn]; exact hn
      rw [← hnn] at HP1 ⊢
      clear hm hc hpz h hh hnc ht hnn hW0 hcell hB
      go_enter Tryz.func101, Tryz.ntmps101
      go_wp2_with fail
      refine HP1.out.mono ?_
      rintro en w2 ⟨rfl, hw2⟩
      obtain rfl : w = w2 := hw2.symm
      go_wp2_with fail
      go_loopw [5] (fun i wr => ∃ j : Nat, j ≤ n ∧ i = .int .i64 j ∧ Hid (∀ (t : Nat) (x : List UInt8), t < j → zs[t]? = some x → x < s) ∧ Hid (wr = w)) (fun i _ => n - (intOf i).toNat)
      case atStart => exact ⟨0, Nat.zero_le _, rfl, hid fun t x h => absurd h (Nat.not_lt_zero _), hid rfl⟩
      case round =>
        obtain ⟨j, hj, rfl, hA, hW⟩ := hrel
        obtain rfl := hW.out
        have HS1 := hid (fun (i : Nat) (u : Value) (hu : (svs (zs.take j))[i]? = some u) => (by
          unfold svs at hu
          rw [List.getElem?_map, Option.map_eq_some_iff] at hu
          obtain ⟨x, hx, rfl⟩ := hu
          rw [List.getElem?_take] at hx
          split at hx
          · have := (World.cell?_of_block (a := ⟨g, i, none⟩) (HB0.out.block g hgl)).trans (HCE.out i x hx)
            rw [show (⟨g, 0, none⟩ : Addr).add i = ⟨g, i, none⟩ by unfold Addr.add; split <;> simp_all]
            exact this
          · exact absurd hx (by simp) : (wr.alloc (.cells #[] 9)).cell? ((⟨g, 0, none⟩ : Addr).add i) = some u))
        by_cases hlt : j < n
        · obtain ⟨x, hx⟩ : ∃ x, zs[j]? = some x := ⟨_, List.getElem?_eq_getElem (by have := HN.out; omega)⟩
          have y0 := HCE.out j x hx
          have jI : (j : Int) < (n : Int) := by omega
          have j0 : (0 : Int) ≤ (j : Int) := by omega
          have jc : (j : Int) ≤ (cap : Int) := by omega
          have jcn : j ≤ cap := by omega
          have HX := hid hx
          clear hx
          by_cases hl : x < s
          · have h1 : Op.bytesLess x s = true := by rw [bytesLess_eq]; exact decide_eq_true hl
            have HA2 := hid (show ∀ (t : Nat) (y : List UInt8), t < j + 1 → zs[t]? = some y → y < s from fun t y ht hy => by
              by_cases e : t = j
              · rw [e, HX.out] at hy
                injection hy with hy
                rw [← hy]; exact hl
              · exact hA.out t y (by omega) hy)
            clear hl HS1
            go_wp2
            go_roundw
            case rel => exact ⟨j + 1, by omega, by go_num, HA2, hid trivial⟩
            case measure => simp [intOf]; omega
          · have h1 : Op.bytesLess x s = false := by rw [bytesLess_eq]; exact decide_eq_false hl
            have HFIN := hid (HFN.out j (pos_is (by have := HN.out; omega) hA.out (fun y hy => by rw [HX.out] at hy; injection hy with hy; rw [← hy]; exact hl)))
            have HNL := hid (show (svs (zs.drop j)).length = (n - j) * 1 from by unfold svs; rw [List.length_map, List.length_drop, ← HN.out]; omega)
            clear hl
            go_upto_region 6 with fail
            go_wp2_with (first | (at_builtin; refine wpList_append_srcJ _ rfl (.tmp 26) (.tmp 29) 47 rfl W0 9 i0 (.string (tx [])) 1 16 Tryz.underlying47 HI.out HZ0.out HZ1.out HZ2.out rfl (by decide) (.slice (some ⟨W0, 0, none⟩) 0 0) 0 [] (by rw [HW0.out]; rfl) HM0.out _ (j) (svs (zs.take (j))) rfl (.inr ⟨⟨g, 0, none⟩, _, rfl, HTL.out _ (by omega), HS1.out⟩) (svs_oneP _) (by unfold maxLen; omega) (by omega) (by have := HB0.out.size; omega) ?_))
            intro v1 w1 hown1 hg1
            have HB1 := hid (grew_belowP hWle HB0.out HM0.out hg1)
            (try rw [Nat.zero_add] at hown1); (try rw [List.nil_append] at hown1)
            have HO1 := hid hown1
            clear hown1 hg1
            obtain ⟨a1, c1, rfl⟩ := own_formJ HO1.out
            have HO1a := hid (fun (ob : Obj) => (show (w1.alloc ob).ownsRow W0 9 1 (.slice a1 (j) c1) (j) (svs (zs.take (j))) from own_sameJ HO1.out fun i r => by rw [Below.heap_alloc _ _ _ (HO1.out.lt i r).2]))
            have HB1a := hid (fun (ob : Obj) => (show Below W0 wr (w1.alloc ob) from HB1.out.alloc (by have := HB1.out.size; omega) _))
            go_wp2_with (first | (at_builtin; refine wpList_append_srcJ _ rfl (.tmp 31) (.tmp 33) 47 rfl W0 9 i0 (.string (tx [])) 1 16 Tryz.underlying47 HI.out HZ0.out HZ1.out HZ2.out rfl (by decide) (.slice a1 (j) c1) (j) (svs (zs.take (j))) rfl (HO1a.out _) _ 1 [.string (tx s)] rfl (.inr ⟨⟨w1.heap.size, 0, none⟩, 1, rfl, rfl, World.news_of_block (new_0 w1 _)⟩) (by simp [Value.oneCell']) (by unfold maxLen; omega) (by omega) (by have := (HB1a.out (.cells #[.string (tx s)] 9)).size; omega) ?_))
            intro v2 w2 hown2 hg2
            have HB2 := hid (grew_belowP hWle (HB1a.out _) (HO1a.out _) hg2)
            have HO2 := hid hown2
            clear hown2 hg2
            obtain ⟨a2, c2, rfl⟩ := own_formJ HO2.out
            have HSD := hid (fun (i : Nat) (u : Value) (hu : (svs (zs.drop j))[i]? = some u) => (by
              unfold svs at hu
              rw [List.getElem?_map, Option.map_eq_some_iff] at hu
              obtain ⟨y, hy, rfl⟩ := hu
              rw [List.getElem?_drop] at hy
              have := HSR.out w2 HB2.out (j + i) y hy
              rw [show (⟨g, j, none⟩ : Addr).add i = ⟨g, j + i, none⟩ by unfold Addr.add; split <;> simp_all]
              exact this : w2.cell? ((⟨g, j, none⟩ : Addr).add i) = some u))
            go_wp2_with (first | (at_builtin; refine wpList_append_srcJ _ rfl (.tmp 35) (.tmp 38) 47 rfl W0 9 i0 (.string (tx [])) 1 16 Tryz.underlying47 HI.out HZ0.out HZ1.out HZ2.out rfl (by decide) (.slice a2 (j + 1) c2) (j + 1) (svs (zs.take (j)) ++ [.string (tx s)]) rfl HO2.out _ (n - j) (svs (zs.drop j)) rfl (.inr ⟨⟨g, j, none⟩, _, rfl, HNL.out, HSD.out⟩) (svs_oneP _) (by unfold maxLen; omega) (by omega) (by have := HB2.out.size; omega) ?_))
            intro v3 w3 hown3 hg3
            have HB3 := hid (grew_belowP hWle HB2.out HO2.out hg3)
            have HO3 := hid hown3
            clear hown3 hg3
            go_wp2
            go_ret
            exact ⟨_, rfl, HFIN.out _ _ _ HO3.out, HW0.out ▸ HB3.out⟩
        · have hjn : j = n := by omega
          subst hjn
          have HFIN0 := hid (HFN.out j (pos_is (by have := HN.out; omega) hA.out (fun y hy => by have := (List.getElem?_eq_some_iff.1 hy).1; have := HN.out; omega)))
          have HFIN := hid (show ∀ (v3 : Value) (w3 : World) (n3 : Nat), w3.ownsRow W0 9 1 v3 n3 (svs (zs.take j) ++ [.string (tx s)]) → w3.ownsRow B 9 1 v3 (Ru.put zs s).length (svs (Ru.put zs s)) from fun v3 w3 n3 h3 => HFIN0.out v3 w3 n3 (by rw [List.drop_eq_nil_of_le (by rw [← HN.out]; exact Nat.le_refl _)]; simpa [svs] using h3))
          clear HFIN0
          have jI : ¬ (j : Int) < (j : Int) := by omega
          rcases Nat.lt_or_eq_of_le hncI with hcl | hcl
          · have jc : (j : Int) ≤ (cap : Int) := by omega
            go_upto_region 6 with fail
            go_wp2_with (first | (at_builtin; refine wpList_append_srcJ _ rfl (.tmp 26) (.tmp 29) 47 rfl W0 9 i0 (.string (tx [])) 1 16 Tryz.underlying47 HI.out HZ0.out HZ1.out HZ2.out rfl (by decide) (.slice (some ⟨W0, 0, none⟩) 0 0) 0 [] (by rw [HW0.out]; rfl) HM0.out _ (j) (svs (zs.take (j))) rfl (.inr ⟨⟨g, 0, none⟩, _, rfl, HTL.out _ (by omega), HS1.out⟩) (svs_oneP _) (by unfold maxLen; omega) (by omega) (by have := HB0.out.size; omega) ?_))
            intro v1 w1 hown1 hg1
            have HB1 := hid (grew_belowP hWle HB0.out HM0.out hg1)
            (try rw [Nat.zero_add] at hown1); (try rw [List.nil_append] at hown1)
            have HO1 := hid hown1
            clear hown1 hg1
            obtain ⟨a1, c1, rfl⟩ := own_formJ HO1.out
            have HO1a := hid (fun (ob : Obj) => (show (w1.alloc ob).ownsRow W0 9 1 (.slice a1 (j) c1) (j) (svs (zs.take (j))) from own_sameJ HO1.out fun i r => by rw [Below.heap_alloc _ _ _ (HO1.out.lt i r).2]))
            have HB1a := hid (fun (ob : Obj) => (show Below W0 wr (w1.alloc ob) from HB1.out.alloc (by have := HB1.out.size; omega) _))
            go_wp2_with (first | (at_builtin; refine wpList_append_srcJ _ rfl (.tmp 31) (.tmp 33) 47 rfl W0 9 i0 (.string (tx [])) 1 16 Tryz.underlying47 HI.out HZ0.out HZ1.out HZ2.out rfl (by decide) (.slice a1 (j) c1) (j) (svs (zs.take (j))) rfl (HO1a.out _) _ 1 [.string (tx s)] rfl (.inr ⟨⟨w1.heap.size, 0, none⟩, 1, rfl, rfl, World.news_of_block (new_0 w1 _)⟩) (by simp [Value.oneCell']) (by unfold maxLen; omega) (by omega) (by have := (HB1a.out (.cells #[.string (tx s)] 9)).size; omega) ?_))
            intro v2 w2 hown2 hg2
            have HB2 := hid (grew_belowP hWle (HB1a.out _) (HO1a.out _) hg2)
            have HO2 := hid hown2
            clear hown2 hg2
            obtain ⟨a2, c2, rfl⟩ := own_formJ HO2.out
            go_wp2_with (first | (at_builtin; refine wpList_append_srcJ _ rfl (.tmp 35) (.tmp 38) 47 rfl W0 9 i0 (.string (tx [])) 1 16 Tryz.underlying47 HI.out HZ0.out HZ1.out HZ2.out rfl (by decide) (.slice a2 (j + 1) c2) (j + 1) (svs (zs.take (j)) ++ [.string (tx s)]) rfl HO2.out _ 0 [] rfl (.inr ⟨_, _, rfl, rfl, fun i u hu => absurd hu (by simp)⟩) (by simp) (by unfold maxLen; omega) (by omega) (by have := HB2.out.size; omega) ?_))
            intro v3 w3 hown3 hg3
            have HB3 := hid (grew_belowP hWle HB2.out HO2.out hg3)
            have HO3 := hid hown3
            clear hown3 hg3
            go_wp2
            go_ret
            exact ⟨_, rfl, HFIN.out _ _ _ HO3.out, HW0.out ▸ HB3.out⟩
          · subst hcl
            have jc : (j : Int) ≤ (j : Int) := by omega
            go_upto_region 6 with fail
            go_wp2_with (first | (at_builtin; refine wpList_append_srcJ _ rfl (.tmp 26) (.tmp 29) 47 rfl W0 9 i0 (.string (tx [])) 1 16 Tryz.underlying47 HI.out HZ0.out HZ1.out HZ2.out rfl (by decide) (.slice (some ⟨W0, 0, none⟩) 0 0) 0 [] (by rw [HW0.out]; rfl) HM0.out _ (j) (svs (zs.take (j))) rfl (.inr ⟨⟨g, 0, none⟩, _, rfl, HTL.out _ (by omega), HS1.out⟩) (svs_oneP _) (by unfold maxLen; omega) (by omega) (by have := HB0.out.size; omega) ?_))
            intro v1 w1 hown1 hg1
            have HB1 := hid (grew_belowP hWle HB0.out HM0.out hg1)
            (try rw [Nat.zero_add] at hown1); (try rw [List.nil_append] at hown1)
            have HO1 := hid hown1
            clear hown1 hg1
            obtain ⟨a1, c1, rfl⟩ := own_formJ HO1.out
            have HO1a := hid (fun (ob : Obj) => (show (w1.alloc ob).ownsRow W0 9 1 (.slice a1 (j) c1) (j) (svs (zs.take (j))) from own_sameJ HO1.out fun i r => by rw [Below.heap_alloc _ _ _ (HO1.out.lt i r).2]))
            have HB1a := hid (fun (ob : Obj) => (show Below W0 wr (w1.alloc ob) from HB1.out.alloc (by have := HB1.out.size; omega) _))
            go_wp2_with (first | (at_builtin; refine wpList_append_srcJ _ rfl (.tmp 31) (.tmp 33) 47 rfl W0 9 i0 (.string (tx [])) 1 16 Tryz.underlying47 HI.out HZ0.out HZ1.out HZ2.out rfl (by decide) (.slice a1 (j) c1) (j) (svs (zs.take (j))) rfl (HO1a.out _) _ 1 [.string (tx s)] rfl (.inr ⟨⟨w1.heap.size, 0, none⟩, 1, rfl, rfl, World.news_of_block (new_0 w1 _)⟩) (by simp [Value.oneCell']) (by unfold maxLen; omega) (by omega) (by have := (HB1a.out (.cells #[.string (tx s)] 9)).size; omega) ?_))
            intro v2 w2 hown2 hg2
            have HB2 := hid (grew_belowP hWle (HB1a.out _) (HO1a.out _) hg2)
            have HO2 := hid hown2
            clear hown2 hg2
            obtain ⟨a2, c2, rfl⟩ := own_formJ HO2.out
            go_wp2_with (first | (at_builtin; refine wpList_append_srcJ _ rfl (.tmp 35) (.tmp 38) 47 rfl W0 9 i0 (.string (tx [])) 1 16 Tryz.underlying47 HI.out HZ0.out HZ1.out HZ2.out rfl (by decide) (.slice a2 (j + 1) c2) (j + 1) (svs (zs.take (j)) ++ [.string (tx s)]) rfl HO2.out _ 0 [] rfl (.inr ⟨_, _, rfl, rfl, fun i u hu => absurd hu (by simp)⟩) (by simp) (by unfold maxLen; omega) (by omega) (by have := HB2.out.size; omega) ?_))
            intro v3 w3 hown3 hg3
            have HB3 := hid (grew_belowP hWle HB2.out HO2.out hg3)
            have HO3 := hid hown3
            clear hown3 hg3
            go_wp2
            go_ret
            exact ⟨_, rfl, HFIN.out _ _ _ HO3.out, HW0.out ▸ HB3.out⟩
end Go.Proofs.YtebaopiedlioiaaGreatDoor
namespace Go.Proofs.YtebaopiedlioiaaGreatDoor
open Go.RowKit
open Wo (Wd)
namespace Dt

/-- A line of words in a block. -/
def LineAt (w : World) (g : Nat) (l : List Wd) : Prop := g < w.heap.size ∧ ∀ (i : Nat) (x : Wd), l[i]? = some x → w.cell? ⟨g, i * 3, none⟩ = some (.string (tx x.1)) ∧ w.cell? ⟨g, i * 3 + 1, none⟩ = some (.int .i64 x.2.1) ∧ w.cell? ⟨g, i * 3 + 2, none⟩ = some (.int .i64 x.2.2)
def Short (e : Wd) (l : List Wd) : Prop := e.1 = [] ∧ ∀ x ∈ l, x.1.length ≤ 1048576
theorem LineAt.kept {w w' : World} {g : Nat} {l : List Wd} (h : LineAt w g l) (he : w'.heap[g]? = w.heap[g]?) (hs : w.heap.size ≤ w'.heap.size) : LineAt w' g l := by
  refine ⟨Nat.lt_of_lt_of_le h.1 hs, fun i x hx => ?_⟩
  obtain ⟨q1, q2, q3⟩ := h.2 i x hx
  exact ⟨by rw [World.cell?_of_block he]; exact q1, by rw [World.cell?_of_block he]; exact q2, by rw [World.cell?_of_block he]; exact q3⟩
theorem Short.nx {e : Wd} {l : List Wd} (h : Short e l) : (Ru.nx e l).1.length ≤ 1048576 := by
  cases l with
  | nil => show e.1.length ≤ _; rw [h.1]; simp
  | cons x t => exact h.2 x List.mem_cons_self
theorem Short.tail {e : Wd} {l : List Wd} (h : Short e l) : Short e l.tail := ⟨h.1, fun x hx => h.2 x (List.mem_of_mem_tail hx)⟩
theorem endW_last {l : List Wd} {x : Wd} (h : l[l.length - 1]? = some x) : Ru.endW l = ([], x.2.1, x.2.2 + x.1.length) := by
  unfold Ru.endW
  rw [List.getLast?_eq_getElem?, h]
/-- A line in memory, with its bounds. -/
structure LineOk (w : World) (g : Nat) (l : List Wd) : Prop where
  at_ : LineAt w g l
  pos : 0 < l.length
  small : ∀ x ∈ l, x.1.length ≤ 1048576 ∧ x.2.2 ≤ 1048577
  len : l.length ≤ 1048576
/-- The document's reader in memory: its line in block g, the word at which it stands; a fault's line, column, number. -/
structure RfAt (w : World) (rb g : Nat) (l : List Wd) (i a b c : Nat) : Prop where
  blk : ∃ cap, w.heap[rb]? = some (.cells #[.slice (some ⟨g, 0, none⟩) l.length cap, .int .i64 i, .int .i64 a, .int .i64 b, .int .i64 c] 72 (0, 0))
  ok : LineOk w g l
  ne : g ≠ rb
  le : i ≤ l.length
/-- The word at which it stands. -/
abbrev atW (l : List Wd) (i : Nat) : Wd := Ru.nx (Ru.endW l) (l.drop i)
theorem atW_short {w : World} {g : Nat} {l : List Wd} (h : LineOk w g l) (i : Nat) : (atW l i).1.length ≤ 1048576 :=
  Short.nx ⟨Ru.endW_text l, fun x hx => (h.small x (List.mem_of_mem_drop hx)).1⟩
theorem RfAt.lt {w : World} {rb g : Nat} {l : List Wd} {i a b c : Nat} (h : RfAt w rb g l i a b c) : rb < w.heap.size := by
  obtain ⟨cap, hc⟩ := h.blk
  exact lt_of_block hc
theorem LineOk.kept {w w' : World} {g : Nat} {l : List Wd} (h : LineOk w g l) (he : w'.heap[g]? = w.heap[g]?) (hs : w.heap.size ≤ w'.heap.size) : LineOk w' g l := ⟨h.at_.kept he hs, h.pos, h.small, h.len⟩
theorem RfAt.on {w w' : World} {rb g : Nat} {l : List Wd} {i a b c : Nat} (h : RfAt w rb g l i a b c) (hb : Below w.heap.size w w') : RfAt w' rb g l i a b c := by
  obtain ⟨cap, hc⟩ := h.blk
  exact ⟨⟨cap, below_block hb hc (lt_of_block hc)⟩, h.ok.kept (hb.block _ h.ok.at_.1) hb.size, h.ne, h.le⟩
theorem RfAt.alloc {w : World} {rb g : Nat} {l : List Wd} {i a b c : Nat} (h : RfAt w rb g l i a b c) (o : Obj) : RfAt (w.alloc o) rb g l i a b c := h.on ((Below.refl _ _).alloc (Nat.le_refl _) _)
/-- A row turns that is not the reader's own. -/
theorem RfAt.row {w w' : World} {rb g : Nat} {l : List Wd} {i a b c : Nat} {row : Option Nat} (h : RfAt w rb g l i a b c) (hg : w.grownBy w' row) (h1 : row ≠ some rb) (h2 : row ≠ some g) : RfAt w' rb g l i a b c := by
  obtain ⟨cap, hc⟩ := h.blk
  exact ⟨⟨cap, (hg.block _ (lt_of_block hc) (fun e => h1 e.symm)).trans hc⟩, h.ok.kept (hg.block _ h.ok.at_.1 (fun e => h2 e.symm)) hg.size, h.ne, h.le⟩
theorem wdrop_at {l : List Wd} {i : Nat} (h : i < l.length) : l.drop i = l[i] :: l.drop (i + 1) := List.drop_eq_getElem_cons h
theorem atW_in {l : List Wd} {i : Nat} (h : i < l.length) : atW l i = l[i] := by unfold atW; rw [wdrop_at h]; rfl
theorem atW_out {l : List Wd} : atW l l.length = Ru.endW l := by unfold atW; simp

set_option maxHeartbeats 1000000 in
theorem Word_any {w : World} {rb g : Nat} {l : List Wd} {i a b c : Nat} (h : RfAt w rb g l i a b c) :
    Calls Tryz.prog 30 #[.pointer (some ⟨rb, 0, none⟩)] w fun en w' => en = .returned (wv (atW l i)) ∧ Below w.heap.size w w' := by
  obtain ⟨cap, hc⟩ := h.blk
  have hlt := lt_of_block hc
  have c0 := cell_at (o := 0) hc
  have c1 := cell_at (o := 1) hc
  simp only [List.getElem?_toArray, List.getElem?_cons_succ, List.getElem?_cons_zero] at c0 c1
  have a0 := alloc_cell c0 hlt
  have a1 := alloc_cell c1 hlt
  have hgl := h.ok.at_.1
  have hle := h.le
  have hlen := h.ok.len
  by_cases hi : i < l.length
  · rw [atW_in hi]
    obtain ⟨q1, q2, q3⟩ := h.ok.at_.2 i l[i] (List.getElem?_eq_getElem hi)
    obtain ⟨x, hx⟩ : ∃ x, x = l[i] := ⟨_, rfl⟩
    rw [← hx] at q1 q2 q3 ⊢
    have b1 := alloc_cell q1 hgl
    have b2 := alloc_cell q2 hgl
    have b3 := alloc_cell q3 hgl
    have hiI : (i : Int) < (l.length : Int) := by omega
    have hi0 : (0 : Int) ≤ (i : Int) := by omega
    clear h hc hx
    go_enter Tryz.func30, Tryz.ntmps30
    go_wp2
    go_quiet (fail)
    go_wp2_with fail
    go_region
    go_wp2
    refine bodyPost_ret (v := wv x) (by simp [results, Tryz.results30, go_sem]) rfl ?_
    exact ⟨rfl, (((below_drewN ((Below.refl _ _).alloc (Nat.le_refl _) _)).setCell (by simp) _).setCell (by simp) _).setCell (by simp) _⟩
  · have hin : i = l.length := by omega
    subst hin
    rw [atW_out]
    have hpos := h.ok.pos
    obtain ⟨x, hx⟩ : ∃ x, l[l.length - 1]? = some x := ⟨l[l.length - 1]'(by omega), List.getElem?_eq_getElem (by omega)⟩
    rw [endW_last hx]
    obtain ⟨q1, q2, q3⟩ := h.ok.at_.2 _ x hx
    have hxm := h.ok.small x (List.mem_of_getElem? hx)
    obtain ⟨n, hn⟩ : ∃ n, l.length = n + 1 := ⟨l.length - 1, by omega⟩
    have en : l.length - 1 = n := by omega
    rw [en] at q1 q2 q3
    rw [hn] at a0 a1 c0 c1
    have b1 := alloc_cell q1 hgl
    have b2 := alloc_cell q2 hgl
    have b3 := alloc_cell q3 hgl
    have hnI : (n : Int) ≤ 1048575 := by omega
    have hn0 : (0 : Int) ≤ (n : Int) := by omega
    have hxI : (x.2.2 : Int) + (x.1.length : Int) ≤ 2097153 := by omega
    have hx0 : (0 : Int) ≤ (x.2.2 : Int) + (x.1.length : Int) := by omega
    clear h hc hx hi hle hn en hlen hpos hxm q1 q2 q3
    go_enter Tryz.func30, Tryz.ntmps30
    go_wp2
    go_quiet (fail)
    go_wp2_with fail
    go_region
    go_wp2
    refine bodyPost_ret (v := wv ([], x.2.1, x.2.2 + x.1.length)) (by simp [results, Tryz.results30, go_sem]) rfl ?_
    have hb := (((below_drewN (n := nq + 1) ((Below.refl w.heap.size w).alloc (Nat.le_refl _) (.cells #[.string ⟨#[]⟩, .int .i64 0, .int .i64 0] 74))).setCell (p := ⟨w.heap.size, 0, none⟩) (by simp) (.string ⟨#[]⟩)).setCell (p := ⟨w.heap.size, 1, none⟩) (by simp) (.int .i64 x.2.1)).setCell (p := ⟨w.heap.size, 2, none⟩) (by simp) (.int .i64 ((x.2.2 : Int) + (x.1.length : Int)))
    exact ⟨by simp, hb.alloc hb.size _⟩

theorem RfAt.cells {w : World} {rb g : Nat} {l : List Wd} {i a b c : Nat} (h : RfAt w rb g l i a b c) : w.cell? ⟨rb, 1, none⟩ = some (.int .i64 i) ∧ w.cell? ⟨rb, 2, none⟩ = some (.int .i64 a) ∧ w.cell? ⟨rb, 3, none⟩ = some (.int .i64 b) ∧ w.cell? ⟨rb, 4, none⟩ = some (.int .i64 c) ∧ w.frozen? ⟨rb, 1, none⟩ = false ∧ w.frozen? ⟨rb, 2, none⟩ = false ∧ w.frozen? ⟨rb, 3, none⟩ = false ∧ w.frozen? ⟨rb, 4, none⟩ = false := by
  obtain ⟨cap, hc⟩ := h.blk
  exact ⟨by rw [cell_at hc]; rfl, by rw [cell_at hc]; rfl, by rw [cell_at hc]; rfl, by rw [cell_at hc]; rfl, free_of hc, free_of hc, free_of hc, free_of hc⟩
/-- The reader with its fault taken down. -/
theorem RfAt.fault {w : World} {rb g : Nat} {l : List Wd} {i a b c : Nat} (h : RfAt w rb g l i a b c) (a' b' c' : Nat) : RfAt (((w.setCell ⟨rb, 4, none⟩ (.int .i64 c')).setCell ⟨rb, 2, none⟩ (.int .i64 a')).setCell ⟨rb, 3, none⟩ (.int .i64 b')) rb g l i a' b' c' := by
  obtain ⟨cap, hc⟩ := h.blk
  refine ⟨⟨cap, ?_⟩, h.ok.kept ?_ (by simp), h.ne, h.le⟩
  · rw [block_set (o := 3) _ (block_set (o := 2) _ (block_set (o := 4) _ hc))]; rfl
  · rw [Below.heap_setCell _ _ _ _ h.ne, Below.heap_setCell _ _ _ _ h.ne, Below.heap_setCell _ _ _ _ h.ne]
theorem RfAt.step {w : World} {rb g : Nat} {l : List Wd} {i a b c : Nat} (h : RfAt w rb g l i a b c) (i' : Nat) (hi : i' ≤ l.length) : RfAt (w.setCell ⟨rb, 1, none⟩ (.int .i64 i')) rb g l i' a b c := by
  obtain ⟨cap, hc⟩ := h.blk
  refine ⟨⟨cap, ?_⟩, h.ok.kept ?_ (by simp), h.ne, hi⟩
  · rw [block_set (o := 1) _ hc]; rfl
  · rw [Below.heap_setCell _ _ _ _ h.ne]

set_option maxHeartbeats 1000000 in
theorem Fail_any {w : World} {rb g : Nat} {l : List Wd} {i a b : Nat} (h : RfAt w rb g l i a b 0) (e : Nat) :
    Calls Tryz.prog 34 #[.pointer (some ⟨rb, 0, none⟩), .int .i64 e] w fun en w' => en = .returned (.tuple #[]) ∧ RfAt w' rb g l i (atW l i).2.1 (atW l i).2.2 e ∧ w.grownBy w' (some rb) := by
  have HW := hid (Word_any h)
  have HR := hid h
  obtain ⟨_, _, _, c4, _⟩ := h.cells
  obtain ⟨x, hx⟩ : ∃ x, x = atW l i := ⟨_, rfl⟩
  rw [← hx] at HW ⊢
  clear hx h
  go_enter Tryz.func34, Tryz.ntmps34
  go_wp2_with fail
  refine HW.out.mono ?_
  rintro en w1 ⟨rfl, hb1⟩
  have R1 := hid ((HR.out.on hb1).alloc (wob x))
  obtain ⟨k1, k2, k3, k4, f1, f2, f3, f4⟩ := R1.out.cells
  have HB := hid hb1
  clear hb1
  have hne : rb ≠ w1.heap.size := by have := HR.out.lt; have := HB.out.size; omega
  have hne' : w1.heap.size ≠ rb := fun q => hne q.symm
  go_wp2_with fail
  go_region_held2 (fun w' => w'.cell? ⟨w1.heap.size, 1, none⟩ = some (.int .i64 x.2.1) ∧ w'.cell? ⟨w1.heap.size, 2, none⟩ = some (.int .i64 x.2.2)) (go_keep) (fail)
  go_wp2
  go_end0
  exact ⟨rfl, (R1.out.fault _ _ _).on (Below.refl _ _).drew, grown_two (grown_two (grown_two (grown_two (grown_two (grown_of_below _ HB.out) (grown_alloc _ _ _)) (grown_set _ _ _ _)) (grown_set _ _ _ _)) (grown_set _ _ _ _)) (grown_of_below _ (Below.refl _ _).drew)⟩

theorem atW_lt {l : List Wd} {i : Nat} (hi : i ≤ l.length) (h : (atW l i).1 ≠ []) : i < l.length := by
  rcases Nat.lt_or_ge i l.length with h1 | h1
  · exact h1
  · have : i = l.length := by omega
    subst this
    rw [atW_out, Ru.endW_text] at h
    exact absurd rfl h

theorem wv_text (x : Wd) (w : World) : (Instr.field 74 (wv x) 0).run Tryz.prog w = .ok (.string (tx x.1)) w := by kernel_rfl
set_option maxHeartbeats 1000000 in
theorem Must_any {w : World} {rb g : Nat} {l : List Wd} {i a b : Nat} (h : RfAt w rb g l i a b 0) (s : List UInt8) (hs : s ≠ []) (e : Nat) :
    Calls Tryz.prog 61 #[.pointer (some ⟨rb, 0, none⟩), .string (tx s), .int .i64 e] w fun en w' => en = .returned (.tuple #[]) ∧
      (((atW l i).1 = s ∧ RfAt w' rb g l (i + 1) a b 0) ∨ ((atW l i).1 ≠ s ∧ RfAt w' rb g l i (atW l i).2.1 (atW l i).2.2 e)) ∧ w.grownBy w' (some rb) := by
  have HW := hid (Word_any h)
  have HR := hid h
  obtain ⟨_, _, _, c4, _⟩ := h.cells
  have HI := hid (fun q : (atW l i).1 = s => atW_lt h.le (by rw [q]; exact hs))
  have hlen := h.ok.len
  have hle := h.le
  obtain ⟨x, hx⟩ : ∃ x, x = atW l i := ⟨_, rfl⟩
  have HF := hid (fun w' (h' : RfAt w' rb g l i a b 0) => Fail_any h' e)
  rw [← hx] at HW HI HF ⊢
  clear hx h
  have hfl := wv_text x
  by_cases hq : x.1 = s
  · have hb : (x.1 == s) = true := by simpa using hq
    have HQ := hid hq
    have hlt := HI.out hq
    have hiI : (i : Int) ≤ 1048576 := by omega
    have hi0 : (0 : Int) ≤ (i : Int) := by omega
    clear hq
    go_enter Tryz.func61, Tryz.ntmps61
    go_wp2_with fail
    refine HW.out.mono ?_
    rintro en w1 ⟨rfl, hb1⟩
    have R1 := hid (HR.out.on hb1)
    obtain ⟨k1, k2, k3, k4, f1, f2, f3, f4⟩ := R1.out.cells
    have HB := hid hb1
    clear hb1
    go_wp2
    go_end0
    exact ⟨rfl, Or.inl ⟨HQ.out, (R1.out.step (i + 1) hlt)⟩, grown_two (grown_of_below _ HB.out) (grown_set _ _ _ _)⟩
  · have hb : (x.1 == s) = false := by simpa using hq
    have HQ := hid hq
    clear hq
    go_enter Tryz.func61, Tryz.ntmps61
    go_wp2_with fail
    refine HW.out.mono ?_
    rintro en w1 ⟨rfl, hb1⟩
    have R1 := hid (HR.out.on hb1)
    have HB := hid hb1
    clear hb1
    go_wp2_with fail
    refine (HF.out _ R1.out).mono ?_
    rintro en w2 ⟨rfl, r2, g2⟩
    have H2 := hid (And.intro r2 g2)
    clear r2 g2
    go_wp2
    refine bodyPost_ret (v := .tuple #[]) (by simp [results, Tryz.results61, go_sem]) rfl ?_
    exact ⟨rfl, Or.inr ⟨HQ.out, H2.out.1⟩, grown_two (grown_of_below _ HB.out) H2.out.2⟩
set_option maxHeartbeats 1000000 in
theorem Must_bad {w : World} {rb g : Nat} {l : List Wd} {i a b c : Nat} (h : RfAt w rb g l i a b c) (hc : c ≠ 0) (s : Value) (e : Nat) :
    Calls Tryz.prog 61 #[.pointer (some ⟨rb, 0, none⟩), s, .int .i64 e] w fun en w' => en = .returned (.tuple #[]) ∧ w' = w := by
  obtain ⟨_, _, _, c4, _⟩ := h.cells
  have hcI : ¬ ((c : Int) = 0) := by omega
  have hcN : ¬ (c = 0) := hc
  clear h hc
  go_enter Tryz.func61, Tryz.ntmps61
  go_wp2
  refine bodyPost_ret (v := .tuple #[]) (by simp [results, Tryz.results61, go_sem]) rfl ?_
  exact ⟨rfl, rfl⟩
end Dt
end Go.Proofs.YtebaopiedlioiaaGreatDoor
namespace Go.Proofs.YtebaopiedlioiaaGreatDoor
open Go.RowKit
open Wo (Wd)
namespace Dt

/-- What list leaves. -/
def ListD (w : World) (rb g : Nat) (l : List Wd) (a b : Nat) (r : Except Ru.Ft (List (List UInt8) × List Wd)) (en : Ending) (w' : World) : Prop :=
  ∃ ao n c, en = .returned (.slice ao n c) ∧ w.grownBy w' (some rb) ∧ ((∃ ns j, r = .ok (ns, l.drop j) ∧ n = ns.length ∧ w'.ownsRow w.heap.size 9 1 (.slice ao n c) n (svs ns) ∧ RfAt w' rb g l j a b 0) ∨ (∃ f j, r = .error f ∧ f.2.2 ≠ 0 ∧ RfAt w' rb g l j f.1 f.2.1 f.2.2))
/-- What is known ahead of each round. -/
structure ListS (w : World) (rb g : Nat) (l : List Wd) (a b i most : Nat) (j : Nat) (v : Value) (m : Nat) (acc : List (List UInt8)) (wr : World) : Prop where
  rd : RfAt wr rb g l j a b 0
  own : wr.ownsRow w.heap.size 9 1 v m (svs acc)
  len : m = acc.length
  on : w.grownBy wr (some rb)
  goes : To.lst (Ru.endW l) most (l.drop i) [] = To.lst (Ru.endW l) most (l.drop j) acc
  few : acc.length ≤ most
theorem grownTwo {w a b : World} {rb : Nat} (h : w.grownBy a (some rb)) (k : a.grownBy b (some rb)) : w.grownBy b (some rb) :=
  ⟨k.os.trans h.os, k.tape.trans h.tape, k.output.trans h.output, Nat.le_trans h.size k.size, fun i hi hn => (k.block i (Nat.lt_of_lt_of_le hi h.size) hn).trans (h.block i hi hn)⟩
theorem grownBelow {w a b : World} {rb : Nat} (h : w.grownBy a (some rb)) (k : Below a.heap.size a b) : w.grownBy b (some rb) :=
  grownTwo h ⟨k.os, k.tape, k.output, k.size, fun i hi _ => k.block i hi⟩
theorem grownSet {w : World} {rb o : Nat} (v : Value) : w.grownBy (w.setCell ⟨rb, o, none⟩ v) (some rb) :=
  ⟨rfl, rfl, rfl, by simp, fun i _ hn => Below.heap_setCell _ _ _ _ (fun e => hn (by rw [e]))⟩

set_option maxRecDepth 20000 in
set_option maxHeartbeats 1000000 in
theorem Rlist_any {w : World} {rb g : Nat} {l : List Wd} {i a b most : Nat} (h : RfAt w rb g l i a b 0) (hm : most ≤ 900) :
    Calls Tryz.prog 65 #[.pointer (some ⟨rb, 0, none⟩), .int .i64 most] w fun en w' => ListD w rb g l a b (To.lst (Ru.endW l) most (l.drop i) []) en w' := by
  have HST := hid (show ListS w rb g l a b i most i (.slice none 0 0) 0 [] w from ⟨h, World.ownsRow_nil _ _ _ _, rfl, growRefl _ _, rfl, Nat.zero_le _⟩)
  have hrl := h.lt
  have hll := h.ok.len
  clear h
  go_enter Tryz.func65, Tryz.ntmps65
  go_wp2_with fail
  go_loopg [5, 6] (l.length + 1 - i) (fun k v s wr => ∃ (j m : Nat) (ao : Option Addr) (c : Nat) (acc : List (List UInt8)), v = .slice ao m c ∧ k = l.length + 1 - j ∧ Hid (ListS w rb g l a b i most j (.slice ao m c) m acc wr))
  case atStart => exact ⟨i, 0, none, 0, [], rfl, rfl, HST⟩
  case round =>
    obtain ⟨j, m, ao, c, acc, rfl, rfl, HI⟩ := hrel
    obtain ⟨c1, c2, c3, c4, f1, f2, f3, f4⟩ := HI.out.rd.cells
    have HW := hid (Word_any HI.out.rd)
    obtain ⟨y, hy⟩ : ∃ y, y = atW l j := ⟨_, rfl⟩
    have HY := hid hy
    rw [← hy] at HW
    have HG := hid (HI.out.goes.trans (To.lst_eq (Ru.endW_text l) most (l.drop j) acc))
    have hys := atW_short HI.out.rd.ok j
    rw [← hy] at hys
    have HNM := hid (fun W => RName_any (tx y.1) W (by rw [tx_size]; unfold maxLen; omega))
    rw [show (tx y.1).data.toList = y.1 from by simp] at HNM
    have hfew := HI.out.few
    clear hy
    go_wp2_with fail
    refine HW.out.mono ?_
    rintro en w1 ⟨rfl, hb1⟩
    have HG1 := hid (grownBelow HI.out.on hb1)
    have HR1 := hid (HI.out.rd.on hb1)
    have HO1 := hid (show w1.ownsRow w.heap.size 9 1 (.slice ao m c) m (svs acc) from own_sameJ HI.out.own fun k hk => hb1.block k (HI.out.own.lt k hk).2)
    have hwt : ∀ w : World, (Instr.field 74 (wv y) 0).run Tryz.prog w = .ok (.string (tx y.1)) w := fun w => wv_text y w
    clear hb1 HW c1 c2 c3 c4 f1 f2 f3 f4
    cases hn : Wo.nameB y.1 with
    | false =>
      have HE := hid (show To.lst (Ru.endW l) most (l.drop i) [] = .error (Ru.ft y 31) from by
        have := HG.out
        rw [show Ru.nx (Ru.endW l) (l.drop j) = y from HY.out.symm, if_pos hn] at this
        exact this)
      rw [hn] at HNM
      have HFL := hid (Fail_any HR1.out 31)
      rw [← HY.out] at HFL
      clear hn
      go_wp2_with fail
      refine (HNM.out _).mono ?_
      rintro en w2 ⟨rfl, hw2⟩
      obtain rfl : w1 = w2 := hw2.symm
      go_wp2_with fail
      refine HFL.out.mono ?_
      rintro en w3 ⟨rfl, hr3, hg3⟩
      have HF := hid (show ListD w rb g l a b (To.lst (Ru.endW l) most (l.drop i) []) (.returned (.slice ao m c)) w3 from ⟨ao, m, c, rfl, grownTwo HG1.out hg3, .inr ⟨_, j, HE.out, by show (31 : Nat) ≠ 0; decide, hr3⟩⟩)
      clear hr3 hg3
      go_wp2
      go_ret
      exact HF.out
    | true =>
      have hjl : j < l.length := atW_lt HR1.out.le (by
        rw [← HY.out]; intro q; rw [q] at hn; exact absurd hn (by decide))
      have HG2 := hid (show To.lst (Ru.endW l) most (l.drop i) [] = if y.1 ∉ acc ∧ most ≤ acc.length then .error (Ru.ft y 3) else if (atW l (j + 1)).1 = To.comma then To.lst (Ru.endW l) most (l.drop (j + 1 + 1)) (Ru.put acc y.1) else .ok (Ru.put acc y.1, l.drop (j + 1)) from by
        have := HG.out
        rw [show Ru.nx (Ru.endW l) (l.drop j) = y from HY.out.symm, if_neg (by rw [hn]; simp), List.tail_drop, List.tail_drop] at this
        exact this)
      rw [hn] at HNM
      have HPU := hid (fun (W : World) (ho : W.ownsRow w.heap.size 9 1 (.slice ao m c) m (svs acc)) (hs : w.heap.size ≤ W.heap.size) => Rput_any (B := w.heap.size) (s := y.1) (by rw [← HI.out.len]; exact ho) hs (by have := HI.out.few; omega))
      have HP1 := hid (HPU.out w1 HO1.out HG1.out.size)
      clear hn HPU HG
      have hjI : (j : Int) ≤ 1048575 := by omega
      go_wp2_with fail
      refine (HNM.out _).mono ?_
      rintro en w2 ⟨rfl, hw2⟩
      obtain rfl : w1 = w2 := hw2.symm
      go_wp2_with fail
      refine HP1.out.mono ?_
      rintro en w2 ⟨v', rfl, ho2, hb2⟩
      obtain ⟨ao', c', rfl⟩ := own_formJ ho2
      obtain ⟨p, hp⟩ : ∃ p, p = (Ru.put acc y.1).length := ⟨_, rfl⟩
      have HPP := hid hp
      rw [← hp] at ho2 ⊢
      have HO2 := hid ho2
      have HR2 := hid (HR1.out.on hb2)
      have HGB2 := hid (grownBelow HG1.out hb2)
      have hpl : p ≤ most + 1 := by
        rw [hp, To.put_len]
        have := HI.out.few
        split <;> omega
      have HQ := hid (show most < p ↔ (y.1 ∉ acc ∧ most ≤ acc.length) from by
        rw [hp, To.put_len]
        have := HI.out.few
        split
        · rename_i hq
          exact ⟨fun h => by omega, fun h => absurd hq h.1⟩
        · rename_i hq
          exact ⟨fun h => ⟨hq, by omega⟩, fun h => by omega⟩)
      obtain ⟨d1, d2, d3, d4, f1, f2, f3, f4⟩ := HR2.out.cells
      clear hp ho2 hb2
      by_cases hq : most < p
      · have hqI : (most : Int) < (p : Int) := by omega
        have HE := hid (show To.lst (Ru.endW l) most (l.drop i) [] = .error (Ru.ft y 3) from by
          rw [HG2.out, if_pos (HQ.out.1 hq)])
        have HFL := hid (Fail_any HR2.out 3)
        rw [← HY.out] at HFL
        clear d1 d2 d3 d4 f1 f2 f3 f4
        go_wp2_with fail
        refine HFL.out.mono ?_
        rintro en w3 ⟨rfl, hr3, hg3⟩
        have HF := hid (show ListD w rb g l a b (To.lst (Ru.endW l) most (l.drop i) []) (.returned (.slice ao' p c')) w3 from ⟨ao', p, c', rfl, grownTwo HGB2.out hg3, .inr ⟨_, j, HE.out, by show (3 : Nat) ≠ 0; decide, hr3⟩⟩)
        clear hr3 hg3
        go_wp2
        go_ret
        exact HF.out
      · have hqI : ¬ (most : Int) < (p : Int) := by omega
        have HG3 := hid (show To.lst (Ru.endW l) most (l.drop i) [] = if (atW l (j + 1)).1 = To.comma then To.lst (Ru.endW l) most (l.drop (j + 1 + 1)) (Ru.put acc y.1) else .ok (Ru.put acc y.1, l.drop (j + 1)) from by
          rw [HG2.out, if_neg (fun h => hq (HQ.out.2 h))])
        obtain ⟨V, hV⟩ : ∃ V, V = w2.setCell ⟨rb, 1, none⟩ (.int .i64 ((j : Int) + 1)) := ⟨_, rfl⟩
        have HRV := hid (show RfAt V rb g l (j + 1) a b 0 from by
          rw [hV]
          have := HR2.out.step (j + 1) (by omega)
          rwa [show ((j + 1 : Nat) : Int) = (j : Int) + 1 by omega] at this)
        have HGV := hid (show w.grownBy V (some rb) from by rw [hV]; exact grownTwo HGB2.out (grownSet _))
        have HOV := hid (show V.ownsRow w.heap.size 9 1 (.slice ao' p c') p (svs (Ru.put acc y.1)) from by
          rw [hV]; exact own_sameJ HO2.out fun k hk => Below.heap_setCell _ _ _ _ (fun e => by have e9 : k = rb := e; have := (HO2.out.lt k hk).1; omega))
        have HWV := hid (Word_any HRV.out)
        obtain ⟨z, hz⟩ : ∃ z, z = atW l (j + 1) := ⟨_, rfl⟩
        have HZ := hid hz
        rw [← hz] at HWV HG3
        have hzt : ∀ w : World, (Instr.field 74 (wv z) 0).run Tryz.prog w = .ok (.string (tx z.1)) w := fun w => wv_text z w
        clear hz hq
        go_upto_region 10 with fail
        rw [← hV]
        clear hV d1 d2 d3 d4 f1 f2 f3 f4
        go_wp2_with fail
        refine HWV.out.mono ?_
        rintro en w3 ⟨rfl, hb3⟩
        have HR3 := hid (HRV.out.on hb3)
        have HG4 := hid (grownBelow HGV.out hb3)
        have HO3 := hid (show w3.ownsRow w.heap.size 9 1 (.slice ao' p c') p (svs (Ru.put acc y.1)) from own_sameJ HOV.out fun k hk => hb3.block k (HOV.out.lt k hk).2)
        clear hb3
        by_cases hc : z.1 = To.comma
        · have e1 : (z.1 != [44]) = false := by rw [hc]; rfl
          have e2 : (z.1 == [44]) = true := by rw [hc]; rfl
          have hjl2 : j + 1 < l.length := atW_lt HR3.out.le (by rw [← HZ.out, hc]; decide)
          obtain ⟨d1, d2, d3, d4, f1, f2, f3, f4⟩ := HR3.out.cells
          have HNX := hid (show ListS w rb g l a b i most (j + 1 + 1) (.slice ao' p c') p (Ru.put acc y.1) (w3.setCell ⟨rb, 1, none⟩ (.int .i64 ((j : Int) + 1 + 1))) from by
            refine ⟨?_, own_sameJ HO3.out fun k hk => Below.heap_setCell _ _ _ _ (fun e => by have e9 : k = rb := e; have := (HO3.out.lt k hk).1; omega), HPP.out, grownTwo HG4.out (grownSet _), by rw [HG3.out, if_pos hc], by rw [← HPP.out]; omega⟩
            have := HR3.out.step (j + 1 + 1) (by omega)
            rwa [show ((j + 1 + 1 : Nat) : Int) = (j : Int) + 1 + 1 by omega] at this)
          clear hc
          go_wp2
          go_roundg (l.length + 1 - (j + 1 + 1))
          case measure => omega
          case rel => exact ⟨j + 1 + 1, p, ao', c', _, rfl, rfl, HNX⟩
        · have e1 : (z.1 != [44]) = true := by rw [bne_iff_ne]; exact hc
          have e2 : (z.1 == [44]) = false := by rw [beq_eq_false_iff_ne]; exact hc
          have HF := hid (show ListD w rb g l a b (To.lst (Ru.endW l) most (l.drop i) []) (.returned (.slice ao' p c')) w3 from ⟨ao', p, c', rfl, HG4.out, .inl ⟨_, j + 1, by rw [HG3.out, if_neg hc], HPP.out, HO3.out, HR3.out⟩⟩)
          clear hc
          go_wp2
          go_ret
          exact HF.out
end Dt
end Go.Proofs.YtebaopiedlioiaaGreatDoor
namespace Go.Proofs.YtebaopiedlioiaaGreatDoor
open Go.RowKit
open Wo (Wd)
namespace Dt

/-- What name leaves. -/
def NameD (w : World) (rb g : Nat) (l : List Wd) (i a b : Nat) (en : Ending) (w' : World) : Prop :=
  en = .returned (.string (tx (atW l i).1)) ∧ w.grownBy w' (some rb) ∧ ((Wo.nameB (atW l i).1 = true ∧ RfAt w' rb g l i a b 0) ∨ (Wo.nameB (atW l i).1 = false ∧ RfAt w' rb g l i (atW l i).2.1 (atW l i).2.2 31))
set_option maxRecDepth 20000 in
set_option maxHeartbeats 1000000 in
theorem Rname_any {w : World} {rb g : Nat} {l : List Wd} {i a b : Nat} (h : RfAt w rb g l i a b 0) :
    Calls Tryz.prog 63 #[.pointer (some ⟨rb, 0, none⟩)] w fun en w' => NameD w rb g l i a b en w' := by
  have HW := hid (Word_any h)
  have HR := hid h
  have hys := atW_short h.ok i
  obtain ⟨y, hy⟩ : ∃ y, y = atW l i := ⟨_, rfl⟩
  have HY := hid hy
  rw [← hy] at HW hys
  have HNM := hid (fun W => RName_any (tx y.1) W (by rw [tx_size]; unfold maxLen; omega))
  rw [show (tx y.1).data.toList = y.1 from by simp] at HNM
  have hwt : ∀ w : World, (Instr.field 74 (wv y) 0).run Tryz.prog w = .ok (.string (tx y.1)) w := fun w => wv_text y w
  clear h hy
  go_enter Tryz.func63, Tryz.ntmps63
  go_wp2_with fail
  refine HW.out.mono ?_
  rintro en w1 ⟨rfl, hb1⟩
  have HR1 := hid (HR.out.on hb1)
  have HG1 := hid (grownBelow (growRefl w (some rb)) hb1)
  obtain ⟨c1, c2, c3, c4, f1, f2, f3, f4⟩ := HR1.out.cells
  clear hb1
  cases hn : Wo.nameB y.1 with
  | true =>
    have HF := hid (show NameD w rb g l i a b (.returned (.string (tx y.1))) w1 from ⟨by rw [← HY.out], HG1.out, .inl ⟨by rw [← HY.out]; exact hn, HR1.out⟩⟩)
    rw [hn] at HNM
    clear hn
    go_wp2_with fail
    refine (HNM.out _).mono ?_
    rintro en w2 ⟨rfl, hw2⟩
    obtain rfl : w1 = w2 := hw2.symm
    go_wp2
    go_ret
    exact HF.out
  | false =>
    have HFL := hid (Fail_any HR1.out 31)
    have HF := hid (fun (w3 : World) (hr : RfAt w3 rb g l i (atW l i).2.1 (atW l i).2.2 31) (hg : w1.grownBy w3 (some rb)) => (show NameD w rb g l i a b (.returned (.string (tx y.1))) w3 from ⟨by rw [← HY.out], grownTwo HG1.out hg, .inr ⟨by rw [← HY.out]; exact hn, hr⟩⟩))
    rw [hn] at HNM
    clear hn
    go_wp2_with fail
    refine (HNM.out _).mono ?_
    rintro en w2 ⟨rfl, hw2⟩
    obtain rfl : w1 = w2 := hw2.symm
    go_wp2_with fail
    refine HFL.out.mono ?_
    rintro en w3 ⟨rfl, hr3, hg3⟩
    have HF3 := hid (HF.out w3 hr3 hg3)
    clear hr3 hg3
    go_wp2
    go_ret
    exact HF3.out

set_option maxRecDepth 20000 in
set_option maxHeartbeats 1000000 in
theorem Rknown_any {w : World} {pb : Nat} {x0 vl vn : Value} {dv : Option Addr} {N dc : Nat} {ds : List (To.Dv × Value × Value)} {s : List UInt8} (hp : w.heap[pb]? = some (.cells #[x0, .slice dv N dc, vl, vn] 68 (0, 0))) (hD : DvL w (.slice dv N dc) ds) (hn : ds.length ≤ 100000) :
    Calls Tryz.prog 64 #[.pointer (some ⟨pb, 0, none⟩), .string (tx s)] w fun en w' => en = .returned (.int .i64 (plZ s (ds.map (·.1.name)))) ∧ w' = w := by
  obtain ⟨av, cap, e, hr⟩ := hD.form
  injection e with e1 e2 e3
  subst e1; subst e2; subst e3
  obtain ⟨n, hnn⟩ : ∃ n, n = ds.length := ⟨_, rfl⟩
  have HN := hid hnn
  rw [← hnn] at hn hp
  have HR := hid hr
  have p1 : w.cell? ⟨pb, 1, none⟩ = some (.slice dv n dc) := by rw [cell_at hp]; rfl
  obtain ⟨zs, hzs⟩ : ∃ zs, zs = ds.map (·.1.name) := ⟨_, rfl⟩
  have HZ := hid (show ∀ (i : Nat) (q : To.Dv × Value × Value), ds[i]? = some q → zs[i]? = some q.1.name from fun i q hq => by rw [hzs, List.getElem?_map, hq]; rfl)
  have HZL := hid (show zs.length = n by rw [hzs, List.length_map, hnn])
  rw [← hzs]
  clear hr hnn hzs hD hp
  go_enter Tryz.func64, Tryz.ntmps64
  go_wp2_with fail
  go_loopw [5] (fun i wr => ∃ j : Nat, j ≤ n ∧ i = .int .i64 j ∧ Hid (∀ (i : Nat) (x : List UInt8), i < j → zs[i]? = some x → ¬ s = x) ∧ Hid (wr = w)) (fun i _ => n - (intOf i).toNat)
  case atStart => exact ⟨0, Nat.zero_le _, rfl, hid fun i x hi => absurd hi (Nat.not_lt_zero i), hid rfl⟩
  case round =>
    obtain ⟨j, hj, rfl, HJ1, hW⟩ := hrel
    obtain rfl := hW.out
    by_cases hlt : j < n
    · obtain ⟨q, hq⟩ : ∃ q, ds[j]? = some q := ⟨_, List.getElem?_eq_getElem (by have := HN.out; omega)⟩
      obtain ⟨g, o, rfl, hg, hcell⟩ := HR.out.resolve_left (fun e => by rw [e] at hq; simp at hq)
      have k0 := (hcell j q hq).1
      have hx := HZ.out j q hq
      obtain ⟨x, hxx⟩ : ∃ x, x = q.1.name := ⟨_, rfl⟩
      rw [← hxx] at k0 hx
      have HX := hid hx
      have hkI : (j : Int) < (n : Int) := by omega
      have hk0 : (0 : Int) ≤ (j : Int) := by omega
      clear hx hcell hq hxx
      by_cases e : s = x
      · subst e
        have HE := hid (show plZ s zs = (j : Int) by unfold plZ; rw [plJ_at HX.out HJ1.out])
        have e3 : (s == s) = true := by simp
        go_wp2
        go_ret
        exact ⟨by rw [HE.out]; rfl, rfl⟩
      · have e1 : (s == x) = false := by rw [beq_eq_false_iff_ne]; exact e
        have e2 : (x == s) = false := by rw [beq_eq_false_iff_ne]; exact fun h => e h.symm
        have HJ2 := hid (show ∀ (i : Nat) (y : List UInt8), i < j + 1 → zs[i]? = some y → ¬ s = y from fun i y hi hy => by
          by_cases ej : i = j
          · subst ej
            rw [HX.out] at hy
            cases hy
            exact e
          · exact HJ1.out i y (by omega) hy)
        clear e
        go_wp2
        go_roundw
        case rel => exact ⟨j + 1, by omega, by go_num, HJ2, hid trivial⟩
        case measure => simp [intOf]; omega
    · have hkI : ¬ ((j : Int) < (n : Int)) := by omega
      have HE := hid (show plZ s zs = -1 by
        unfold plZ
        rw [plJ_none fun i x hx => HJ1.out i x (by have := (List.getElem?_eq_some_iff.1 hx).1; have := HZL.out; omega) hx])
      clear hlt HJ1
      go_wp2
      go_ret
      exact ⟨by rw [HE.out]; rfl, rfl⟩
end Dt
end Go.Proofs.YtebaopiedlioiaaGreatDoor
