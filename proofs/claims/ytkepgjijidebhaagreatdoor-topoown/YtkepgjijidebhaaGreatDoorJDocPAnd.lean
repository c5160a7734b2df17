/-
  The ends of links that are taken: a map of numbers by device and port; ends.add.
  The numbers of devices by their names: a map.
  m[k]++ of a map told key by key: the entry first or the look-up first.
  A map of whole numbers in memory, told key by key.
  The document's put: a text among others, rising, once.
-/
import Derived.Test.YtkepgjijidebhaaGreatDoorJDocNAnd
import Derived.Test.YtkepgjijidebhaaGreatDoorJInsAnd
import Derived.Laws.AppendOwnNone
import Derived.Deep.AppendLies
import Derived.WalkKit
import Derived.Maps.OwnSet
import Derived.WideKeyEntry
import Derived.Test.YtkepgjijidebhaaGreatDoorWRefSAnd
import Derived.DeepKeys5
namespace Go.Proofs.YtkepgjijidebhaaGreatDoor
open Go.RowKit

theorem pos_is {s : List UInt8} : ∀ {l : List (List UInt8)} {i : Nat}, i ≤ l.length → (∀ (t : Nat) (x : List UInt8), t < i → l[t]? = some x → x < s) → (∀ x, l[i]? = some x → ¬ x < s) → To.pos s l = i
  | [], i, h, _, _ => by simp at h; rw [h]; rfl
  | a :: r, 0, _, _, k => by
    unfold To.pos
    rw [if_neg (k a rfl)]
  | a :: r, i + 1, h, h1, k => by
    unfold To.pos
    rw [if_pos (h1 0 a (by omega) rfl), pos_is (by simpa using h) (fun t x ht hx => h1 (t + 1) x (by omega) (by simpa using hx)) (fun x hx => k x (by simpa using hx))]
theorem Tryz.infoStrP : (Tryz.prog.info? 9).map (fun i => (i.zero, i.size, i.bytes)) = some (some (.string (tx [])), 1, 16) := by kernel_rfl
theorem own_txsP {w : World} {B : Nat} {v : Value} {zs : List (List UInt8)} (h : w.ownsRow B 9 1 v zs.length (svs zs)) : Txs w v zs := by
  rcases h.2 with ⟨e, h0⟩ | ⟨g, cap, cur, e, hB, hh, hn, _, _, ht⟩
  · have : zs = [] := List.length_eq_zero_iff.1 h0
    subst this
    exact ⟨none, 0, e, .inl rfl⟩
  · refine ⟨_, cap, e, ?_⟩
    by_cases hz : zs = []
    · exact .inl hz
    · refine .inr ⟨g, 0, rfl, lt_of_block hh, fun i hi => ?_⟩
      rw [Nat.zero_add, cell_at hh, ← Array.getElem?_toList]
      have : (cur.toList.take (zs.length * 1))[i]? = some (.string (tx (zs.getD i []))) := by
        rw [ht]; unfold svs; rw [List.getElem?_map, List.getD_eq_getElem?_getD, List.getElem?_eq_getElem hi]; rfl
      rw [List.getElem?_take, if_pos (by omega)] at this
      exact this

theorem growRefl (w : World) (row : Option Nat) : w.grownBy w row := ⟨rfl, rfl, rfl, Nat.le_refl _, fun _ _ _ => rfl⟩
theorem wpList_append_srcJ {P : Program} (w : World) {ops : Array Oper} {rest : List Oper} {o : Oper} {a : Act} {Q : Exit → Act → World → Prop} (hgd : o.guard = none) (s x : Operand) (t : TypeId)
    (ho : o.op = .call { callee := .builtin .append, args := #[s, x], argTypes := #[t, t] })
    (base : Nat) (e : TypeId) (i : TypeInfo) (z : Value) (size bytes : Nat) (ht : P.underlying t = some (.slice e)) (hi : P.info? e = some i) (hz : i.zero = some z)
    (hsize : i.size = size) (hby : i.bytes = bytes) (hzs : z.cells.size = size) (hsz : 0 < size)
    (v : Value) (n : Nat) (xs : List Value) (hs : a.eval s = v) (hown : w.ownsRow base e size v n xs)
    (vx : Value) (m : Nat) (news : List Value) (hx : a.eval x = vx) (hsrc : (vx = .slice none 0 0 ∧ m = 0 ∧ news = []) ∨ ∃ ad c, vx = .slice (some ad) m c ∧ news.length = m * size ∧ ∀ j u, news[j]? = some u → w.cell? (ad.add j) = some u) (h1 : ∀ u ∈ news, u.oneCell' = true)
    (h63 : n + m ≤ maxLen) (hbytes : (n + m) * bytes ≤ 140737488355328) (hbase : base ≤ w.heap.size)
    (h : ∀ v' w', w'.ownsRow base e size v' (n + m) (xs ++ news) → w.grownBy w' v.ownBlock → wpList P ops Q rest (a.put o.dst v') w') :
    wpList P ops Q (o :: rest) a w := by
  rcases hsrc with ⟨rfl, rfl, rfl⟩ | ⟨ad, c, rfl, hl, hc⟩
  · refine wpList_append_own_none hgd s x t ho base e i size ht hi v n xs hs hown hx ?_
    exact h v w (by simpa using hown) (growRefl _ _)
  · refine wpList_append_own_at w hgd s x t ho base e i z size bytes ht hi hz hsize hby hzs hsz v n xs hs hown ad m c news hx hl hc h1 h63 hbytes hbase ?_
    intro v' w' h1 h2 _ _
    exact h v' w' h1 h2

theorem own_weakP {w : World} {B B' : Nat} {v : Value} {n : Nat} {xs : List Value} (h : w.ownsRow B' 9 1 v n xs) (hB : B ≤ B') : w.ownsRow B 9 1 v n xs :=
  ⟨h.1, h.2.imp id fun ⟨g, cap, cur, e, hb, r⟩ => ⟨g, cap, cur, e, Nat.le_trans hB hb, r⟩⟩
/-- An empty row of one's own, just made. -/
theorem own_madeP (w : World) : (w.alloc (.cells #[] 9)).ownsRow w.heap.size 9 1 (.slice (some ⟨w.heap.size, 0, none⟩) 0 0) 0 [] :=
  ⟨rfl, .inr ⟨w.heap.size, 0, #[], rfl, Nat.le_refl _, new_0 _ _, Nat.le_refl _, by decide, rfl, rfl⟩⟩
theorem svs_oneP (l : List (List UInt8)) : ∀ u ∈ svs l, u.oneCell' = true := fun u hu => by
  unfold svs at hu
  obtain ⟨a, -, rfl⟩ := List.mem_map.1 hu
  rfl
/-- A row that grew, and what lies below it. -/
theorem grew_belowP {w a b : World} {W0 : Nat} {v : Value} {n : Nat} {xs : List Value} (hW : W0 ≤ w.heap.size) (hb : Below W0 w a) (ho : a.ownsRow W0 9 1 v n xs) (hg : a.grownBy b v.ownBlock) : Below W0 w b :=
  ⟨hg.os.trans hb.os, hg.tape.trans hb.tape, hg.output.trans hb.output, Nat.le_trans hb.size hg.size, fun i hi => by
    rw [hg.block i (by have := hb.size; omega) (fun r => by have := (ho.lt i r.symm).1; omega), hb.block i hi]⟩

set_option maxRecDepth 20000 in
set_option maxHeartbeats 2000000 in
theorem Rput_any {w : World} {B : Nat} {v : Value} {zs : List (List UInt8)} {s : List UInt8} (h : w.ownsRow B 9 1 v zs.length (svs zs)) (hB : B ≤ w.heap.size) (hn : zs.length ≤ 1000) :
    Calls Tryz.prog 101 #[v, .string (tx s)] w fun e w' => ∃ v', e = .returned v' ∧ w'.ownsRow B 9 1 v' (Ru.put zs s).length (svs (Ru.put zs s)) ∧ Below w.heap.size w w' := by
  obtain ⟨i0, hi, hz0, hz1, hz2⟩ := info_parts Tryz.infoStrP
  have HI := hid hi
  have HZ0 := hid hz0
  have HZ1 := hid hz1
  have HZ2 := hid hz2
  clear hi hz0 hz1 hz2
  obtain ⟨n, hnn⟩ : ∃ n, n = zs.length := ⟨_, rfl⟩
  have HN := hid hnn
  have HT := hid (own_txsP h)
  have HPL := hid (fun W (hb : Below w.heap.size w W) => Rplace_any (t := s) (HT.out.below hb) (Nat.le_trans hn (by decide)))
  have hpz := plZ_neg s zs
  obtain ⟨pz, hpz'⟩ : ∃ z, z = plZ s zs := ⟨_, rfl⟩
  rw [← hpz'] at HPL hpz
  have HP1 := hid (HPL.out w (Below.refl _ _))
  have HOW := hid h
  obtain ⟨W0, hW0⟩ : ∃ W0, W0 = w.heap.size := ⟨_, rfl⟩
  have HW0 := hid hW0
  clear hpz' HPL
  by_cases hm : s ∈ zs
  · have hc : decide (pz < 0) = false := by rw [hpz, List.contains_iff_mem.2 hm]; rfl
    have hp0 : 0 ≤ pz := by have := of_decide_eq_false hc; omega
    have HE := hid (show w.ownsRow B 9 1 v (Ru.put zs s).length (svs (Ru.put zs s)) from by
      rw [To.put_old hm]; exact HOW.out)
    obtain ⟨ao, cap, hv⟩ := own_formJ h
    subst hv
    rw [← hnn] at HP1 HE ⊢
    clear hm hc hpz h hnn hW0
    go_enter Tryz.func101, Tryz.ntmps101
    go_wp2_with fail
    refine HP1.out.mono ?_
    rintro en w2 ⟨rfl, hw2⟩
    obtain rfl : w = w2 := hw2.symm
    go_wp2
    go_ret
    exact ⟨_, rfl, HE.out, Below.refl _ _⟩
  · have hc : decide (pz < 0) = true := by rw [hpz, Bool.eq_false_iff.2 (fun q => hm (List.contains_iff_mem.1 q))]; rfl
    have hp0 : pz < 0 := of_decide_eq_true hc
    have hp1 : ¬ 0 ≤ pz := by omega
    have HPN := hid (To.put_new hm)
    have HM0 := hid (own_madeP w)
    have HB0 := hid (show Below w.heap.size w (w.alloc (.cells #[] 9)) from (Below.refl _ _).alloc (Nat.le_refl _) _)
    rw [← hW0] at HM0 HB0
    have hWle : W0 ≤ w.heap.size := Nat.le_of_eq hW0
    have HWB := hid (show B ≤ W0 from by rw [hW0]; exact hB)
    have HFN := hid (fun (j : Nat) (hp : To.pos s zs = j) (v3 : Value) (w3 : World) (n3 : Nat) (h3 : w3.ownsRow W0 9 1 v3 n3 (svs (zs.take j) ++ .string (tx s) :: svs (zs.drop j))) => (show w3.ownsRow B 9 1 v3 (Ru.put zs s).length (svs (Ru.put zs s)) from by
      have e : svs (zs.take j) ++ .string (tx s) :: svs (zs.drop j) = svs (Ru.put zs s) := by
        rw [HPN.out, hp]; unfold svs; simp
      rw [e] at h3
      have hl : n3 = (Ru.put zs s).length := by have := h3.1; unfold svs at this; simp at this; omega
      rw [hl] at h3
      exact own_weakP h3 HWB.out))
    rcases h.2 with ⟨e, h0⟩ | ⟨g, cap, cur, e, hBg, hh, hnc, -, -, ht⟩
    · subst e
      have hz : zs = [] := List.length_eq_zero_iff.1 h0
      subst hz
      have hn0 : n = 0 := hnn
      subst hn0
      clear hm hc hpz h hnn h0 hW0 hB
      go_enter Tryz.func101, Tryz.ntmps101
      go_wp2_with fail
      refine HP1.out.mono ?_
      rintro en w2 ⟨rfl, hw2⟩
      obtain rfl : w = w2 := hw2.symm
      go_wp2_with fail
      go_loopw [5] (fun i wr => ∃ j : Nat, j ≤ 0 ∧ i = .int .i64 j ∧ Hid (∀ (t : Nat) (x : List UInt8), t < j → ([] : List (List UInt8))[t]? = some x → x < s) ∧ Hid (wr = w)) (fun i _ => 0 - (intOf i).toNat)
      case atStart => exact ⟨0, Nat.zero_le _, rfl, hid fun t x h => absurd h (Nat.not_lt_zero _), hid rfl⟩
      case round =>
        obtain ⟨j, hj, rfl, hA, hW⟩ := hrel
        obtain rfl := hW.out
        have hj0 : j = 0 := by omega
        subst hj0
        have HFIN := hid (HFN.out 0 rfl)
        go_upto_region 6 with fail
        go_wp2_with (first | (at_builtin; refine wpList_append_srcJ _ rfl (.tmp 26) (.tmp 29) 47 rfl W0 9 i0 (.string (tx [])) 1 16 Tryz.underlying47 HI.out HZ0.out HZ1.out HZ2.out rfl (by decide) (.slice (some ⟨W0, 0, none⟩) 0 0) 0 [] (by rw [HW0.out]; rfl) HM0.out _ (0) (svs (([] : List (List UInt8)).take 0)) rfl (.inl ⟨rfl, rfl, rfl⟩) (svs_oneP _) (by unfold maxLen; omega) (by omega) (by have := HB0.out.size; omega) ?_))
        intro v1 w1 hown1 hg1
        have HB1 := hid (grew_belowP hWle HB0.out HM0.out hg1)
        (try rw [Nat.zero_add] at hown1); (try rw [List.nil_append] at hown1)
        have HO1 := hid hown1
        clear hown1 hg1
        obtain ⟨a1, c1, rfl⟩ := own_formJ HO1.out
        have HO1a := hid (fun (ob : Obj) => (show (w1.alloc ob).ownsRow W0 9 1 (.slice a1 (0) c1) (0) (svs (([] : List (List UInt8)).take 0)) from own_sameJ HO1.out fun i r => by rw [Below.heap_alloc _ _ _ (HO1.out.lt i r).2]))
        have HB1a := hid (fun (ob : Obj) => (show Below W0 wr (w1.alloc ob) from HB1.out.alloc (by have := HB1.out.size; omega) _))
        go_wp2_with (first | (at_builtin; refine wpList_append_srcJ _ rfl (.tmp 31) (.tmp 33) 47 rfl W0 9 i0 (.string (tx [])) 1 16 Tryz.underlying47 HI.out HZ0.out HZ1.out HZ2.out rfl (by decide) (.slice a1 (0) c1) (0) (svs (([] : List (List UInt8)).take 0)) rfl (HO1a.out _) _ 1 [.string (tx s)] rfl (.inr ⟨⟨w1.heap.size, 0, none⟩, 1, rfl, rfl, World.news_of_block (new_0 w1 _)⟩) (by simp [Value.oneCell']) (by unfold maxLen; omega) (by omega) (by have := (HB1a.out (.cells #[.string (tx s)] 9)).size; omega) ?_))
        intro v2 w2 hown2 hg2
        have HB2 := hid (grew_belowP hWle (HB1a.out _) (HO1a.out _) hg2)
        have HO2 := hid hown2
        clear hown2 hg2
        obtain ⟨a2, c2, rfl⟩ := own_formJ HO2.out
        go_wp2_with (first | (at_builtin; refine wpList_append_srcJ _ rfl (.tmp 35) (.tmp 38) 47 rfl W0 9 i0 (.string (tx [])) 1 16 Tryz.underlying47 HI.out HZ0.out HZ1.out HZ2.out rfl (by decide) (.slice a2 (0 + 1) c2) (0 + 1) (svs (([] : List (List UInt8)).take 0) ++ [.string (tx s)]) rfl HO2.out _ (0) ([]) rfl (.inl ⟨rfl, rfl, rfl⟩) (by simp) (by unfold maxLen; omega) (by omega) (by have := HB2.out.size; omega) ?_))
        intro v3 w3 hown3 hg3
        have HB3 := hid (grew_belowP hWle HB2.out HO2.out hg3)
        have HO3 := hid hown3
        clear hown3 hg3
        go_wp2
        go_ret
        exact ⟨_, rfl, HFIN.out _ _ _ HO3.out, HW0.out ▸ HB3.out⟩
    · subst e
      have hcell : ∀ (i : Nat) (x : List UInt8), zs[i]? = some x → w.cell? ⟨g, i, none⟩ = some (.string (tx x)) := fun i x hx => by
        have hi := (List.getElem?_eq_some_iff.1 hx).1
        rw [cell_at hh, ← Array.getElem?_toList]
        have : (cur.toList.take (zs.length * 1))[i]? = some (.string (tx x)) := by
          rw [ht]; unfold svs; rw [List.getElem?_map, hx]; rfl
        rw [List.getElem?_take, if_pos (by omega)] at this
        exact this
      have hgl : g < W0 := by rw [hW0]; exact lt_of_block hh
      have HCE := hid hcell
      have HTL := hid (fun (j : Nat) (hj : j ≤ n) => (show (svs (zs.take j)).length = j * 1 from by unfold svs; rw [List.length_map, List.length_take]; omega))
      have HSR := hid (fun (W : World) (hb : Below W0 w W) (i : Nat) (x : List UInt8) (hx : zs[i]? = some x) => (World.cell?_of_block (a := ⟨g, i, none⟩) (hb.block g hgl)).trans (hcell i x hx))
      have hncI : n ≤ cap := by rw [hnn]; exact hnc
      have hn2 : n ≤ 1000 := by rw [hnn]; exact hn
      rw [← hnn] at HP1 ⊢
      clear hm hc hpz h hh hnc ht hnn hW0 hcell hB
      go_enter Tryz.func101, Tryz.ntmps101
      go_wp2_with fail
      refine HP1.out.mono ?_
      rintro en w2 ⟨rfl, hw2⟩
      obtain rfl : w = w2 := hw2.symm
      go_wp2_with fail
      go_loopw [5] (fun i wr => ∃ j : Nat, j ≤ n ∧ i = .int .i64 j ∧ Hid (∀ (t : Nat) (x : List UInt8), t < j → zs[t]? = some x → x < s) ∧ Hid (wr = w)) (fun i _ => n - (intOf i).toNat)
      case atStart => exact ⟨0, Nat.zero_le _, rfl, hid fun t x h => absurd h (Nat.not_lt_zero _), hid rfl⟩
      case round =>
        obtain ⟨j, hj, rfl, hA, hW⟩ := hrel
        obtain rfl := hW.out
        have HS1 := hid (fun (i : Nat) (u : Value) (hu : (svs (zs.take j))[i]? = some u) => (by
          unfold svs at hu
          rw [List.getElem?_map, Option.map_eq_some_iff] at hu
          obtain ⟨x, hx, rfl⟩ := hu
          rw [List.getElem?_take] at hx
          split at hx
          · have := (World.cell?_of_block (a := ⟨g, i, none⟩) (HB0.out.block g hgl)).trans (HCE.out i x hx)
            rw [show (⟨g, 0, none⟩ : Addr).add i = ⟨g, i, none⟩ by unfold Addr.add; split <;> simp_all]
            exact this
          · exact absurd hx (by simp) : (wr.alloc (.cells #[] 9)).cell? ((⟨g, 0, none⟩ : Addr).add i) = some u))
        by_cases hlt : j < n
        · obtain ⟨x, hx⟩ : ∃ x, zs[j]? = some x := ⟨_, List.getElem?_eq_getElem (by have := HN.out; omega)⟩
          have y0 := HCE.out j x hx
          have jI : (j : Int) < (n : Int) := by omega
          have j0 : (0 : Int) ≤ (j : Int) := by omega
          have jc : (j : Int) ≤ (cap : Int) := by omega
          have jcn : j ≤ cap := by omega
          have HX := hid hx
          clear hx
          by_cases hl : x < s
          · have h1 : Op.bytesLess x s = true := by rw [bytesLess_eq]; exact decide_eq_true hl
            have HA2 := hid (show ∀ (t : Nat) (y : List UInt8), t < j + 1 → zs[t]? = some y → y < s from fun t y ht hy => by
              by_cases e : t = j
              · rw [e, HX.out] at hy
                injection hy with hy
                rw [← hy]; exact hl
              · exact hA.out t y (by omega) hy)
            clear hl HS1
            go_wp2
            go_roundw
            case rel => exact ⟨j + 1, by omega, by go_num, HA2, hid trivial⟩
            case measure => simp [intOf]; omega
          · have h1 : Op.bytesLess x s = false := by rw [bytesLess_eq]; exact decide_eq_false hl
            have HFIN := hid (HFN.out j (pos_is (by have := HN.out; omega) hA.out (fun y hy => by rw [HX.out] at hy; injection hy with hy; rw [← hy]; exact hl)))
            have HNL := hid (show (svs (zs.drop j)).length = (n - j) * 1 from by unfold svs; rw [List.length_map, List.length_drop, ← HN.out]; omega)
            clear hl
            go_upto_region 6 with fail
            go_wp2_with (first | (at_builtin; refine wpList_append_srcJ _ rfl (.tmp 26) (.tmp 29) 47 rfl W0 9 i0 (.string (tx [])) 1 16 Tryz.underlying47 HI.out HZ0.out HZ1.out HZ2.out rfl (by decide) (.slice (some ⟨W0, 0, none⟩) 0 0) 0 [] (by rw [HW0.out]; rfl) HM0.out _ (j) (svs (zs.take (j))) rfl (.inr ⟨⟨g, 0, none⟩, _, rfl, HTL.out _ (by omega), HS1.out⟩) (svs_oneP _) (by unfold maxLen; omega) (by omega) (by have := HB0.out.size; omega) ?_))
            intro v1 w1 hown1 hg1
            have HB1 := hid (grew_belowP hWle HB0.out HM0.out hg1)
            (try rw [Nat.zero_add] at hown1); (try rw [List.nil_append] at hown1)
            have HO1 := hid hown1
            clear hown1 hg1
            obtain ⟨a1, c1, rfl⟩ := own_formJ HO1.out
            have HO1a := hid (fun (ob : Obj) => (show (w1.alloc ob).ownsRow W0 9 1 (.slice a1 (j) c1) (j) (svs (zs.take (j))) from own_sameJ HO1.out fun i r => by rw [Below.heap_alloc _ _ _ (HO1.out.lt i r).2]))
            have HB1a := hid (fun (ob : Obj) => (show Below W0 wr (w1.alloc ob) from HB1.out.alloc (by have := HB1.out.size; omega) _))
            go_wp2_with (first | (at_builtin; refine wpList_append_srcJ _ rfl (.tmp 31) (.tmp 33) 47 rfl W0 9 i0 (.string (tx [])) 1 16 Tryz.underlying47 HI.out HZ0.out HZ1.out HZ2.out rfl (by decide) (.slice a1 (j) c1) (j) (svs (zs.take (j))) rfl (HO1a.out _) _ 1 [.string (tx s)] rfl (.inr ⟨⟨w1.heap.size, 0, none⟩, 1, rfl, rfl, World.news_of_block (new_0 w1 _)⟩) (by simp [Value.oneCell']) (by unfold maxLen; omega) (by omega) (by have := (HB1a.out (.cells #[.string (tx s)] 9)).size; omega) ?_))
            intro v2 w2 hown2 hg2
            have HB2 := hid (grew_belowP hWle (HB1a.out _) (HO1a.out _) hg2)
            have HO2 := hid hown2
            clear hown2 hg2
            obtain ⟨a2, c2, rfl⟩ := own_formJ HO2.out
            have HSD := hid (fun (i : Nat) (u : Value) (hu : (svs (zs.drop j))[i]? = some u) => (by
              unfold svs at hu
              rw [List.getElem?_map, Option.map_eq_some_iff] at hu
              obtain ⟨y, hy, rfl⟩ := hu
              rw [List.getElem?_drop] at hy
              have := HSR.out w2 HB2.out (j + i) y hy
              rw [show (⟨g, j, none⟩ : Addr).add i = ⟨g, j + i, none⟩ by unfold Addr.add; split <;> simp_all]
              exact this : w2.cell? ((⟨g, j, none⟩ : Addr).add i) = some u))
            go_wp2_with (first | (at_builtin; refine wpList_append_srcJ _ rfl (.tmp 35) (.tmp 38) 47 rfl W0 9 i0 (.string (tx [])) 1 16 Tryz.underlying47 HI.out HZ0.out HZ1.out HZ2.out rfl (by decide) (.slice a2 (j + 1) c2) (j + 1) (svs (zs.take (j)) ++ [.string (tx s)]) rfl HO2.out _ (n - j) (svs (zs.drop j)) rfl (.inr ⟨⟨g, j, none⟩, _, rfl, HNL.out, HSD.out⟩) (svs_oneP _) (by unfold maxLen; omega) (by omega) (by have := HB2.out.size; omega) ?_))
            intro v3 w3 hown3 hg3
            have HB3 := hid (grew_belowP hWle HB2.out HO2.out hg3)
            have HO3 := hid hown3
            clear hown3 hg3
            go_wp2
            go_ret
            exact ⟨_, rfl, HFIN.out _ _ _ HO3.out, HW0.out ▸ HB3.out⟩
        · have hjn : j = n := by omega
          subst hjn
          have HFIN0 := hid (HFN.out j (pos_is (by have := HN.out; omega) hA.out (fun y hy => by have := (List.getElem?_eq_some_iff.1 hy).1; have := HN.out; omega)))
          have HFIN := hid (show ∀ (v3 : Value) (w3 : World) (n3 : Nat), w3.ownsRow W0 9 1 v3 n3 (svs (zs.take j) ++ [.string (tx s)]) → w3.ownsRow B 9 1 v3 (Ru.put zs s).length (svs (Ru.put zs s)) from fun v3 w3 n3 h3 => HFIN0.out v3 w3 n3 (by rw [List.drop_eq_nil_of_le (by rw [← HN.out]; exact Nat.le_refl _)]; simpa [svs] using h3))
          clear HFIN0
          have jI : ¬ (j : Int) < (j : Int) := by omega
          rcases Nat.lt_or_eq_of_le hncI with hcl | hcl
          · have jc : (j : Int) ≤ (cap : Int) := by omega
            go_upto_region 6 with fail
            go_wp2_with (first | (at_builtin; refine wpList_append_srcJ _ rfl (.tmp 26) (.tmp 29) 47 rfl W0 9 i0 (.string (tx [])) 1 16 Tryz.underlying47 HI.out HZ0.out HZ1.out HZ2.out rfl (by decide) (.slice (some ⟨W0, 0, none⟩) 0 0) 0 [] (by rw [HW0.out]; rfl) HM0.out _ (j) (svs (zs.take (j))) rfl (.inr ⟨⟨g, 0, none⟩, _, rfl, HTL.out _ (by omega), HS1.out⟩) (svs_oneP _) (by unfold maxLen; omega) (by omega) (by have := HB0.out.size; omega) ?_))
            intro v1 w1 hown1 hg1
            have HB1 := hid (grew_belowP hWle HB0.out HM0.out hg1)
            (try rw [Nat.zero_add] at hown1); (try rw [List.nil_append] at hown1)
            have HO1 := hid hown1
            clear hown1 hg1
            obtain ⟨a1, c1, rfl⟩ := own_formJ HO1.out
            have HO1a := hid (fun (ob : Obj) => (show (w1.alloc ob).ownsRow W0 9 1 (.slice a1 (j) c1) (j) (svs (zs.take (j))) from own_sameJ HO1.out fun i r => by rw [Below.heap_alloc _ _ _ (HO1.out.lt i r).2]))
            have HB1a := hid (fun (ob : Obj) => (show Below W0 wr (w1.alloc ob) from HB1.out.alloc (by have := HB1.out.size; omega) _))
            go_wp2_with (first | (at_builtin; refine wpList_append_srcJ _ rfl (.tmp 31) (.tmp 33) 47 rfl W0 9 i0 (.string (tx [])) 1 16 Tryz.underlying47 HI.out HZ0.out HZ1.out HZ2.out rfl (by decide) (.slice a1 (j) c1) (j) (svs (zs.take (j))) rfl (HO1a.out _) _ 1 [.string (tx s)] rfl (.inr ⟨⟨w1.heap.size, 0, none⟩, 1, rfl, rfl, World.news_of_block (new_0 w1 _)⟩) (by simp [Value.oneCell']) (by unfold maxLen; omega) (by omega) (by have := (HB1a.out (.cells #[.string (tx s)] 9)).size; omega) ?_))
            intro v2 w2 hown2 hg2
            have HB2 := hid (grew_belowP hWle (HB1a.out _) (HO1a.out _) hg2)
            have HO2 := hid hown2
            clear hown2 hg2
            obtain ⟨a2, c2, rfl⟩ := own_formJ HO2.out
            go_wp2_with (first | (at_builtin; refine wpList_append_srcJ _ rfl (.tmp 35) (.tmp 38) 47 rfl W0 9 i0 (.string (tx [])) 1 16 Tryz.underlying47 HI.out HZ0.out HZ1.out HZ2.out rfl (by decide) (.slice a2 (j + 1) c2) (j + 1) (svs (zs.take (j)) ++ [.string (tx s)]) rfl HO2.out _ 0 [] rfl (.inr ⟨_, _, rfl, rfl, fun i u hu => absurd hu (by simp)⟩) (by simp) (by unfold maxLen; omega) (by omega) (by have := HB2.out.size; omega) ?_))
            intro v3 w3 hown3 hg3
            have HB3 := hid (grew_belowP hWle HB2.out HO2.out hg3)
            have HO3 := hid hown3
            clear hown3 hg3
            go_wp2
            go_ret
            exact ⟨_, rfl, HFIN.out _ _ _ HO3.out, HW0.out ▸ HB3.out⟩
          · subst hcl
            have jc : (j : Int) ≤ (j : Int) := by omega
            go_upto_region 6 with fail
            go_wp2_with (first | (at_builtin; refine wpList_append_srcJ _ rfl (.tmp 26) (.tmp 29) 47 rfl W0 9 i0 (.string (tx [])) 1 16 Tryz.underlying47 HI.out HZ0.out HZ1.out HZ2.out rfl (by decide) (.slice (some ⟨W0, 0, none⟩) 0 0) 0 [] (by rw [HW0.out]; rfl) HM0.out _ (j) (svs (zs.take (j))) rfl (.inr ⟨⟨g, 0, none⟩, _, rfl, HTL.out _ (by omega), HS1.out⟩) (svs_oneP _) (by unfold maxLen; omega) (by omega) (by have := HB0.out.size; omega) ?_))
            intro v1 w1 hown1 hg1
            have HB1 := hid (grew_belowP hWle HB0.out HM0.out hg1)
            (try rw [Nat.zero_add] at hown1); (try rw [List.nil_append] at hown1)
            have HO1 := hid hown1
            clear hown1 hg1
            obtain ⟨a1, c1, rfl⟩ := own_formJ HO1.out
            have HO1a := hid (fun (ob : Obj) => (show (w1.alloc ob).ownsRow W0 9 1 (.slice a1 (j) c1) (j) (svs (zs.take (j))) from own_sameJ HO1.out fun i r => by rw [Below.heap_alloc _ _ _ (HO1.out.lt i r).2]))
            have HB1a := hid (fun (ob : Obj) => (show Below W0 wr (w1.alloc ob) from HB1.out.alloc (by have := HB1.out.size; omega) _))
            go_wp2_with (first | (at_builtin; refine wpList_append_srcJ _ rfl (.tmp 31) (.tmp 33) 47 rfl W0 9 i0 (.string (tx [])) 1 16 Tryz.underlying47 HI.out HZ0.out HZ1.out HZ2.out rfl (by decide) (.slice a1 (j) c1) (j) (svs (zs.take (j))) rfl (HO1a.out _) _ 1 [.string (tx s)] rfl (.inr ⟨⟨w1.heap.size, 0, none⟩, 1, rfl, rfl, World.news_of_block (new_0 w1 _)⟩) (by simp [Value.oneCell']) (by unfold maxLen; omega) (by omega) (by have := (HB1a.out (.cells #[.string (tx s)] 9)).size; omega) ?_))
            intro v2 w2 hown2 hg2
            have HB2 := hid (grew_belowP hWle (HB1a.out _) (HO1a.out _) hg2)
            have HO2 := hid hown2
            clear hown2 hg2
            obtain ⟨a2, c2, rfl⟩ := own_formJ HO2.out
            go_wp2_with (first | (at_builtin; refine wpList_append_srcJ _ rfl (.tmp 35) (.tmp 38) 47 rfl W0 9 i0 (.string (tx [])) 1 16 Tryz.underlying47 HI.out HZ0.out HZ1.out HZ2.out rfl (by decide) (.slice a2 (j + 1) c2) (j + 1) (svs (zs.take (j)) ++ [.string (tx s)]) rfl HO2.out _ 0 [] rfl (.inr ⟨_, _, rfl, rfl, fun i u hu => absurd hu (by simp)⟩) (by simp) (by unfold maxLen; omega) (by omega) (by have := HB2.out.size; omega) ?_))
            intro v3 w3 hown3 hg3
            have HB3 := hid (grew_belowP hWle HB2.out HO2.out hg3)
            have HO3 := hid hown3
            clear hown3 hg3
            go_wp2
            go_ret
            exact ⟨_, rfl, HFIN.out _ _ _ HO3.out, HW0.out ▸ HB3.out⟩
end Go.Proofs.YtkepgjijidebhaaGreatDoor
namespace Go.Proofs.YtkepgjijidebhaaGreatDoor
open Go.RowKit Go.Maps

/-- Block b is a map of sz entries: at a key that may be one, f says what it holds. -/
def MapOf (P : Program) (k e : TypeId) (w : World) (b sz : Nat) (f : Value → Option Int) : Prop :=
  ∃ D : DataW Unit, w.ownsMap P k (plainElem P e) b sz D ∧ Maps.size D = sz ∧
    ∀ key kl, keyOf P k key = some kl → Maps.has D kl = (f key).isSome ∧ ∀ c, f key = some c → D.atKey kl (.lit (.int .i64 0)) = .lit (.int .i64 c)

theorem owns_tight {P : Program} {k e : TypeId} {w : World} {b n : Nat} {D : DataW Unit} (h : w.ownsMap P k (plainElem P e) b n D) : w.ownsMap P k (plainElem P e) b (Maps.size D) D := by
  obtain ⟨es, clock, hb, F, _, rfl⟩ := h
  exact ⟨es, clock, hb, F, by simp [Maps.size, length_sorted], rfl⟩

theorem MapOf.lt {P : Program} {k e : TypeId} {w : World} {b sz : Nat} {f : Value → Option Int} (h : MapOf P k e w b sz f) : b < w.heap.size := by
  obtain ⟨D, h, _⟩ := h
  exact h.lt

theorem MapOf.congr {P : Program} {k e : TypeId} {w : World} {b sz : Nat} {f g : Value → Option Int} (h : MapOf P k e w b sz f) (hfg : ∀ key kl, keyOf P k key = some kl → f key = g key) : MapOf P k e w b sz g := by
  obtain ⟨D, h1, h2, h3⟩ := h
  refine ⟨D, h1, h2, fun key kl hk => ?_⟩
  rw [← hfg key kl hk]
  exact h3 key kl hk

/-- A block that is as it was. -/
theorem MapOf.same {P : Program} {k e : TypeId} {w w' : World} {b sz : Nat} {f : Value → Option Int} (h : MapOf P k e w b sz f) (hb : w'.heap[b]? = w.heap[b]?) : MapOf P k e w' b sz f := by
  obtain ⟨D, ⟨es, clock, h1, F, hs, hD⟩, h2, h3⟩ := h
  exact ⟨D, ⟨es, clock, hb.trans h1, F, hs, hD⟩, h2, h3⟩

theorem MapOf.new (P : Program) (k e : TypeId) (w : World) : MapOf P k e (w.alloc (.map #[] 0)) w.heap.size 0 (fun _ => none) :=
  ⟨.map [], World.ownsMap_made w P k _, rfl, fun key kl _ => ⟨by simp [Maps.has], fun c h => by cases h⟩⟩

theorem MapOf.look {P : Program} {k e t : TypeId} {w : World} {b sz : Nat} {f : Value → Option Int} (h : MapOf P k e w b sz f) (K : Keyed P k) (ht : P.underlying t = some (.map k e)) (he : P.underlying e = some (.int .i64))
    (hz : (zeroValue e).run P w = .ok (.int .i64 0) w) {key : Value} {kl : Lit} (hk : keyOf P k key = some kl) :
    (Instr.lookup t (.map (some b)) key true).run P w = .ok (.tuple #[.int .i64 ((f key).getD 0), .bool (f key).isSome]) w := by
  obtain ⟨D, h1, h2, h3⟩ := h
  obtain ⟨v, ps, hrun, hv⟩ := h1.look_ok K ht hz (zd := .lit (.int .i64 0)) (zp := []) (plainElem_int he (by decide)) hk
  obtain ⟨c, rfl, hc, hwc⟩ := plainElem_int_inv he hv
  obtain ⟨h4, h5⟩ := h3 key kl hk
  rw [hrun, h4]
  cases hf : f key with
  | none =>
    have : D.atKey kl (.lit (.int .i64 0)) = .lit (.int .i64 0) := Maps.atKey_of_not_has (by rw [h4, hf]; rfl) _
    have hc' := congrArg Prod.fst hc
    simp only [this] at hc'
    cases hc'
    rfl
  | some c' =>
    have := h5 c' hf
    have hc' := congrArg Prod.fst hc
    simp only [this] at hc'
    cases hc'
    rfl

theorem MapOf.look1 {P : Program} {k e t : TypeId} {w : World} {b sz : Nat} {f : Value → Option Int} (h : MapOf P k e w b sz f) (K : Keyed P k) (ht : P.underlying t = some (.map k e)) (he : P.underlying e = some (.int .i64))
    (hz : (zeroValue e).run P w = .ok (.int .i64 0) w) {key : Value} {kl : Lit} (hk : keyOf P k key = some kl) :
    (Instr.lookup t (.map (some b)) key false).run P w = .ok (.int .i64 ((f key).getD 0)) w := by
  obtain ⟨D, h1, h2, h3⟩ := h
  obtain ⟨c, hrun, hc, hwc⟩ := h1.lookup_int K ht he hz hk
  obtain ⟨h4, h5⟩ := h3 key kl hk
  rw [hrun]
  cases hf : f key with
  | none =>
    have : D.atKey kl (.lit (.int .i64 0)) = .lit (.int .i64 0) := Maps.atKey_of_not_has (by rw [h4, hf]; rfl) _
    rw [this] at hc
    cases hc
    rfl
  | some c' =>
    rw [h5 c' hf] at hc
    cases hc
    rfl

theorem MapOf.len {P : Program} {k e t : TypeId} {w : World} {b sz : Nat} {f : Value → Option Int} (h : MapOf P k e w b sz f) (ht : P.underlying t = some (.map k e)) (ty : TypeId) :
    (Builtin.len_ #[t] ty #[.map (some b)]).run P w = .ok (.int .i64 sz) w := by
  obtain ⟨D, h1, h2, h3⟩ := h
  rw [h1.len ht ty, h2]

/-- f' is f but for one key. -/
def Upd (f : Value → Option Int) (key : Value) (c : Option Int) (f' : Value → Option Int) : Prop := f' key = c ∧ ∀ x, x ≠ key → f' x = f x
theorem upd_exists (f : Value → Option Int) (key : Value) (c : Option Int) : ∃ f', Upd f key c f' := by
  classical
  exact ⟨fun x => if x = key then c else f x, if_pos rfl, fun x hx => if_neg hx⟩

/-- Behind a store. -/
theorem mapOf_put {P : Program} {k e : TypeId} {w w' : World} {b sz : Nat} {f : Value → Option Int} (K : Keyed P k) {D : DataW Unit} (h1 : w.ownsMap P k (plainElem P e) b sz D) (h2 : Maps.size D = sz)
    (h3 : ∀ key kl, keyOf P k key = some kl → Maps.has D kl = (f key).isSome ∧ ∀ c, f key = some c → D.atKey kl (.lit (.int .i64 0)) = .lit (.int .i64 c)) {key : Value} {kl : Lit} (hk : keyOf P k key = some kl) {c : Int}
    (h4 : w'.ownsMap P k (plainElem P e) b (sz + 1) (D.put kl (.lit (.int .i64 c)))) : ∀ f', Upd f key (some c) f' → MapOf P k e w' b (if (f key).isSome then sz else sz + 1) f' := by
  intro f' hf'
  have hs : Maps.size (D.put kl (.lit (.int .i64 c))) = if (f key).isSome then sz else sz + 1 := by
    rw [Maps.size_put (h1.tidy K), (h3 key kl hk).1, h2]
  refine ⟨D.put kl (.lit (.int .i64 c)), ?_, hs, ?_⟩
  · have := owns_tight h4
    rw [hs] at this
    exact this
  · intro key' kl' hk'
    by_cases e1 : key' = key
    · subst e1
      have : kl' = kl := by rw [hk] at hk'; cases hk'; rfl
      subst this
      rw [hf'.1]
      refine ⟨by rw [Maps.has_put_same h1.isMap (K.key hk)]; rfl, ?_⟩
      intro c' hc'
      cases hc'
      exact Maps.atKey_put_same h1.isMap (K.key hk) _ _
    · have hne : kl' ≠ kl := fun e2 => e1 (K.inj hk' (by rw [e2]; exact hk))
      rw [hf'.2 _ e1, Maps.has_put_other hne, Maps.atKey_put_other hne]
      exact h3 key' kl' hk'

theorem wpList_store_of {P : Program} (w : World) {ops : Array Oper} {rest : List Oper} {o : Oper} {a : Act} {Q : Exit → Act → World → Prop}
    (hg : o.guard = none) (m x v : Operand) (t : TypeId) (hop : o.op = Op.mapUpdate t m x v)
    (k e : TypeId) (K : Keyed P k) (ht : P.underlying t = some (.map k e)) (he : P.underlying e = some (.int .i64)) (b sz : Nat) (f : Value → Option Int)
    (hm : a.eval m = .map (some b)) (hown : MapOf P k e w b sz f) (hn : sz < maxLen) (key : Value) (c : Int) (kl : Lit) (hx : a.eval x = key) (hv : a.eval v = .int .i64 c) (hkey : keyOf P k key = some kl) (hc : (Lit.int .i64 c).wf = true)
    (hK : ∀ w', (∀ f', Upd f key (some c) f' → MapOf P k e w' b (if (f key).isSome then sz else sz + 1) f') → w.grownBy w' (some b) → wpList P ops Q rest (a.put o.dst undef) w') :
    wpList P ops Q (o :: rest) a w := by
  obtain ⟨D, h1, h2, h3⟩ := hown
  refine wpList_mapUpdate_own w hg m x v t hop k e K ht (plainElem P e) b sz D hm h1 hn key (.int .i64 c) kl hx hv hkey (.lit (.int .i64 c)) [] (plainElem_int he hc) ?_
  intro w' h4 h5
  exact hK w' (mapOf_put K h1 h2 h3 hkey h4) h5

theorem wpList_delete_of {P : Program} (w : World) {ops : Array Oper} {rest : List Oper} {o : Oper} {a : Act} {Q : Exit → Act → World → Prop}
    (hg : o.guard = none) (m x : Operand) (t k : TypeId) (hop : o.op = Op.call { callee := Callee.builtin Builtin.delete, args := #[m, x], argTypes := #[t, k] })
    (e : TypeId) (K : Keyed P k) (ht : P.underlying t = some (.map k e)) (b sz : Nat) (f : Value → Option Int)
    (hm : a.eval m = .map (some b)) (hown : MapOf P k e w b sz f) (key : Value) (kl : Lit) (hx : a.eval x = key) (hkey : keyOf P k key = some kl)
    (hK : ∀ w', (∀ f', Upd f key none f' → MapOf P k e w' b (if (f key).isSome then sz - 1 else sz) f') → w.grownBy w' (some b) → wpList P ops Q rest (a.put o.dst (.tuple #[])) w') :
    wpList P ops Q (o :: rest) a w := by
  obtain ⟨D, h1, h2, h3⟩ := hown
  refine wpList_delete_own w hg m x t k hop e K ht (plainElem P e) b sz D hm h1 key kl hx hkey ?_
  intro w' h4 h5
  refine hK w' (fun f' hf' => ?_) h5.grown
  have hs : Maps.size (D.del kl) = if (f key).isSome then sz - 1 else sz := by
    have := Maps.size_del (k := kl) (h1.tidy K)
    rw [(h3 key kl hkey).1, h2] at this
    split at this
    · rename_i hh; rw [if_pos hh]; omega
    · rename_i hh; rw [if_neg hh]; omega
  refine ⟨D.del kl, ?_, hs, ?_⟩
  · have := owns_tight h4
    rw [hs] at this
    exact this
  · intro key' kl' hk'
    by_cases e1 : key' = key
    · subst e1
      have : kl' = kl := by rw [hkey] at hk'; cases hk'; rfl
      subst this
      rw [hf'.1]
      exact ⟨by rw [Maps.has_del_same]; rfl, fun c' hc' => by cases hc'⟩
    · have hne : kl' ≠ kl := fun e2 => e1 (K.inj hk' (by rw [e2]; exact hkey))
      rw [hf'.2 _ e1, Maps.has_del_other hne, Maps.atKey_del_other hne]
      exact h3 key' kl' hk'
end Go.Proofs.YtkepgjijidebhaaGreatDoor
namespace Go.Proofs.YtkepgjijidebhaaGreatDoor
open Go.RowKit Go.Maps

theorem MapOf.put_runU {P : Program} {k e t : TypeId} {w : World} {b sz : Nat} {f : Value → Option Int} (h : MapOf P k e w b sz f) (K : Keyed P k) (ht : P.underlying t = some (.map k e)) (he : P.underlying e = some (.int .i64)) (hn : sz < maxLen)
    {key : Value} {kl : Lit} (hk : keyOf P k key = some kl) {c : Int} (hc : (Lit.int .i64 c).wf = true) :
    ∃ w', (Instr.mapUpdate t (.map (some b)) key (.int .i64 c)).run P w = .ok () w' ∧ (∀ f', Upd f key (some c) f' → MapOf P k e w' b (if (f key).isSome then sz else sz + 1) f') ∧ w.grownBy w' (some b) := by
  obtain ⟨D, h1, h2, h3⟩ := h
  obtain ⟨w', hrun, r1, r2⟩ := h1.update K ht hn hk (val := .int .i64 c) (d := .lit (.int .i64 c)) (ps := []) (plainElem_int he hc)
  exact ⟨w', hrun, mapOf_put K h1 h2 h3 hk r1, r2⟩
theorem setBlock_at {w : World} {b : Nat} (hb : b < w.heap.size) (o : Obj) : (ChangeMaps.setBlock w b o).heap[b]? = some o := by
  unfold ChangeMaps.setBlock
  simp [hb]
theorem setBlock_grown (w : World) (b : Nat) (o : Obj) : w.grownBy (ChangeMaps.setBlock w b o) (some b) := by
  refine ⟨rfl, rfl, rfl, by simp [ChangeMaps.setBlock], fun i _ hne => ?_⟩
  show (w.heap.setIfInBounds b o)[i]? = _
  rw [Array.getElem?_setIfInBounds_ne (fun q => hne (by rw [q]))]
theorem setBlock_two (w : World) (b : Nat) (o o' : Obj) : ChangeMaps.setBlock (ChangeMaps.setBlock w b o) b o' = ChangeMaps.setBlock w b o' := by
  unfold ChangeMaps.setBlock
  simp [Array.setIfInBounds_setIfInBounds]

theorem MapOf.entry {P : Program} {k e t : TypeId} {w : World} {b sz : Nat} {f : Value → Option Int} (h : MapOf P k e w b sz f) (KL : WideMaps.KeyLaw P k) (ht : P.underlying t = some (.map k e)) (he : P.underlying e = some (.int .i64)) (hz : ∀ u : World, (zeroValue e).run P u = .ok (.int .i64 0) u) (hn : sz < maxLen)
    {key : Value} {kl : Lit} (hk : keyOf P k key = some kl) :
    ∃ v0 st w1, (Instr.mapEntry t (.map (some b)) key).run P w = .ok (.tuple #[v0, goInt st]) w1 ∧ w.grownBy w1 (some b) ∧
      (Instr.lookup t (.map (some b)) key false).run P w1 = .ok (.int .i64 ((f key).getD 0)) w1 ∧
      ∀ c : Int, (Lit.int .i64 c).wf = true → ∃ w2, (Instr.entryStore t (.map (some b)) (goInt st) (.int .i64 c)).run P w1 = .ok () w2 ∧ (∀ f', Upd f key (some c) f' → MapOf P k e w2 b (if (f key).isSome then sz else sz + 1) f') ∧ w.grownBy w2 (some b) := by
  have K := Keyed.of_law KL
  have h0 := h
  obtain ⟨D, ⟨es, clock, hb, F, hs, hD⟩, h2, h3⟩ := h
  obtain ⟨v0, st, es1, clock1, hrun, hor, hst⟩ := WideElems.entry_then_store KL ht hz hb F hk
  have hlt : b < w.heap.size := h0.lt
  refine ⟨v0, st, ChangeMaps.setBlock w b (.map es1 clock1), hrun, setBlock_grown _ _ _, ?_, fun c hc => ?_⟩
  · rcases KL.find w hk es.toList F.keys with ⟨q1, q2⟩ | ⟨j, e0, q1, q2, q3⟩
    · have r1 : (Instr.mapEntry t (.map (some b)) key).run P w = .ok (.tuple #[.int .i64 0, goInt clock]) (ChangeMaps.setBlock w b (.map (es.push ⟨key, .int .i64 0, clock⟩) (clock + 1))) := by
        simp [Instr.mapEntry, run_underlying ht, MapKept.run_getObj_map hb, KL.check w false hk, q1, hz, MapKept.run_setObj_map _ hb, Result.andThen, ChangeMaps.setBlock]
      have r2 : (Instr.mapUpdate t (.map (some b)) key (.int .i64 0)).run P w = .ok () (ChangeMaps.setBlock w b (.map (es.push ⟨key, .int .i64 0, clock⟩) (clock + 1))) := by
        simp [Instr.mapUpdate, run_underlying ht, MapKept.run_getObj_map hb, KL.check w false hk, q1, MapKept.run_setObj_map _ hb, Result.andThen, ChangeMaps.setBlock]
      rw [r1] at hrun
      have ew : ChangeMaps.setBlock w b (.map es1 clock1) = ChangeMaps.setBlock w b (.map (es.push ⟨key, .int .i64 0, clock⟩) (clock + 1)) := by
        injection hrun with _ e2
        exact e2.symm
      obtain ⟨w', p1, p2, _⟩ := h0.put_runU K ht he hn hk (c := 0) (by decide)
      rw [r2] at p1
      have ew' : w' = ChangeMaps.setBlock w b (.map es1 clock1) := by
        injection p1 with _ e2
        rw [← e2, ew]
      obtain ⟨f', hf'⟩ := upd_exists f key (some 0)
      have M1 := p2 f' hf'
      rw [ew'] at M1
      have L1 := M1.look1 K ht he (hz _) hk
      rw [hf'.1] at L1
      have L0 := h0.look1 K ht he (hz _) hk
      have L00 : (Instr.lookup t (.map (some b)) key false).run P w = .ok (.int .i64 0) w := by
        simp [Instr.lookup, run_underlying ht, MapKept.run_getObj_map hb, KL.check w es.isEmpty hk, q1, hz, Result.andThen]
      rw [L00] at L0
      have e0 : (f key).getD 0 = 0 := by
        injection L0 with e1 _
        injection e1 with _ e3
        exact e3.symm
      rw [e0]
      exact L1
    · have hj : es[j]? = some e0 := by simpa using q2
      have hsame : es.modify j (fun e => { e with key := key }) = es := by
        apply Array.ext'
        rw [Array.toList_modify, ChangeMaps.modify_eq_set _ _ _ _ q2]
        have : ({ e0 with key := key } : MapEntry) = e0 := by rw [← q3]
        rw [this]
        exact WideElems.set_self _ _ _ q2
      have r1 : (Instr.mapEntry t (.map (some b)) key).run P w = .ok (.tuple #[e0.val, goInt e0.born]) (ChangeMaps.setBlock w b (.map es clock)) := by
        simp [Instr.mapEntry, run_underlying ht, MapKept.run_getObj_map hb, KL.check w false hk, q1, hj, q3, KL.stays w hk, hsame, MapKept.run_setObj_map _ hb, Result.andThen, ChangeMaps.setBlock]
      rw [r1] at hrun
      have ew : ChangeMaps.setBlock w b (.map es1 clock1) = ChangeMaps.setBlock w b (.map es clock) := by
        injection hrun with _ e2
        exact e2.symm
      rw [ew]
      exact (h0.same ((setBlock_at hlt _).trans hb.symm)).look1 K ht he (hz _) hk
  · obtain ⟨es', clock', p1, p2⟩ := hst (ChangeMaps.setBlock w b (.map es1 clock1)) (.int .i64 c) (setBlock_at hlt _)
    rw [setBlock_two] at p1
    obtain ⟨w', q1, q2, q3⟩ := h0.put_runU K ht he hn hk hc
    rw [p2] at q1
    have ew' : w' = ChangeMaps.setBlock w b (.map es' clock') := by
      injection q1 with _ e2
      exact e2.symm
    rw [ew'] at q2 q3
    exact ⟨_, p1, q2, q3⟩
end Go.Proofs.YtkepgjijidebhaaGreatDoor
namespace Go.Proofs.YtkepgjijidebhaaGreatDoor
open Go.RowKit Go.Maps

theorem jKey : Keyed Tryz.prog 9 := string_keyed Tryz.underlying9
theorem jzero_int (w : World) : (zeroValue 3).run Tryz.prog w = .ok (.int .i64 0) w := by kernel_rfl
theorem jkey_str {s : List UInt8} (hs : s.length ≤ 1048576) : ∃ kl, keyOf Tryz.prog 9 (.string (tx s)) = some kl := by
  have hz : (tx s).size ≤ maxLen := by rw [tx_size]; unfold maxLen; omega
  simp [keyOf, mapKey, Tryz.underlying9, hz]
/-- The number of a name: its place, from 1 on. -/
def numO (ns : List (List UInt8)) (s : List UInt8) : Option Int := if s ∈ ns then some ((ns.idxOf s : Int) + 1) else none
/-- The map of names. -/
def NumAt (w : World) (nb : Nat) (ns : List (List UInt8)) : Prop := ∃ f, MapOf Tryz.prog 9 3 w nb ns.length f ∧ ∀ s, f (.string (tx s)) = numO ns s
theorem NumAt.same {w w' : World} {nb : Nat} {ns : List (List UInt8)} (h : NumAt w nb ns) (hb : w'.heap[nb]? = w.heap[nb]?) : NumAt w' nb ns := by
  obtain ⟨f, h1, h2⟩ := h
  exact ⟨f, h1.same hb, h2⟩
theorem NumAt.lt {w : World} {nb : Nat} {ns : List (List UInt8)} (h : NumAt w nb ns) : nb < w.heap.size := by
  obtain ⟨f, h1, h2⟩ := h
  exact h1.lt
theorem NumAt.new (w : World) : NumAt (w.alloc (.map #[] 0)) w.heap.size [] := ⟨fun _ => none, MapOf.new _ _ _ w, fun s => by simp [numO]⟩
theorem NumAt.look {w : World} {nb : Nat} {ns : List (List UInt8)} (h : NumAt w nb ns) {s : List UInt8} (hs : s.length ≤ 1048576) : (Instr.lookup 107 (.map (some nb)) (.string (tx s)) false).run Tryz.prog w = .ok (.int .i64 ((numO ns s).getD 0)) w := by
  obtain ⟨f, h1, h2⟩ := h
  obtain ⟨kl, hkl⟩ := jkey_str hs
  have := h1.look1 jKey Tryz.underlying107 Tryz.underlying3 (jzero_int _) hkl
  rw [h2] at this
  exact this
theorem tx_injJ {a b : List UInt8} (h : Value.string (tx a) = .string (tx b)) : a = b := by
  injection h with h
  have := congrArg (fun b : ByteArray => b.data.toList) h
  simpa using this
theorem numO_snoc {ns : List (List UInt8)} {s : List UInt8} (hs : s ∉ ns) (t : List UInt8) : numO (ns ++ [s]) t = if t = s then some ((ns.length : Int) + 1) else numO ns t := by
  by_cases h : t = s
  · subst h
    rw [if_pos rfl]
    unfold numO
    rw [if_pos (by simp), List.idxOf_append, if_neg hs]
    simp
  · rw [if_neg h]
    unfold numO
    by_cases hm : t ∈ ns
    · rw [if_pos (by simp [hm]), if_pos hm, List.idxOf_append, if_pos hm]
    · rw [if_neg (by simp [hm, h]), if_neg hm]
theorem NumAt.put {w : World} {nb : Nat} {ns : List (List UInt8)} (h : NumAt w nb ns) {s : List UInt8} (hs : s.length ≤ 1048576) (hn : s ∉ ns) (hl : ns.length ≤ 1000) : ∃ w', (Instr.mapUpdate 107 (.map (some nb)) (.string (tx s)) (.int .i64 ((ns.length : Int) + 1))).run Tryz.prog w = .ok () w' ∧ NumAt w' nb (ns ++ [s]) ∧ w.grownBy w' (some nb) := by
  obtain ⟨f, h1, h2⟩ := h
  obtain ⟨kl, hkl⟩ := jkey_str hs
  obtain ⟨w', r1, r2, r3⟩ := h1.put_runU jKey Tryz.underlying107 Tryz.underlying3 (by unfold maxLen; omega) hkl (c := (ns.length : Int) + 1) (WalkArith.wf_i64 (by omega))
  refine ⟨w', r1, ?_, r3⟩
  obtain ⟨f', hf'⟩ := upd_exists f (.string (tx s)) (some ((ns.length : Int) + 1))
  have h3 := r2 f' hf'
  have h4 : f (.string (tx s)) = none := by rw [h2]; unfold numO; rw [if_neg hn]
  rw [h4] at h3
  refine ⟨f', by rw [List.length_append, List.length_singleton]; exact h3, fun t => ?_⟩
  rw [numO_snoc hn]
  by_cases ht : t = s
  · rw [if_pos ht, ht]; exact hf'.1
  · rw [if_neg ht, hf'.2 _ (fun q => ht (tx_injJ q)), h2]
end Go.Proofs.YtkepgjijidebhaaGreatDoor
namespace Go.Proofs.YtkepgjijidebhaaGreatDoor
open Go.RowKit Go.Maps

theorem Tryz.laidOutT : laidOutB Tryz.prog = true := by kernel_rfl
theorem tKeyL : WideMaps.KeyLaw Tryz.prog 95 := (deep_law_gate Tryz.laidOutT (of_decide_eq_true (by kernel_rfl)) (of_decide_eq_true (by kernel_rfl)) (by kernel_rfl) (by kernel_rfl))
theorem tKey : Keyed Tryz.prog 95 := Keyed.of_law tKeyL
/-- A key as a value. -/
abbrev kvt (p : Nat) (m : List UInt8) : Value := .agg #[.int .i64 p, .string (tx m)]
theorem tlits_int (d : Nat) {n : Nat} (h : n < 9223372036854775808) : Tryz.prog.keyLits (d + 1) 3 [.int .i64 (n : Int)] = some [.int .i64 (n : Int)] := by
  have hw : (Lit.int .i64 (n : Int)).wf = true := WalkArith.wf_i64 (by omega)
  unfold Program.keyLits
  simp [Tryz.underlying3, hw]
theorem tlits_str (d : Nat) (s : ByteArray) (hs : s.size ≤ maxLen) : ∃ b, Tryz.prog.keyLits (d + 1) 9 [.string s] = some [b] := by
  unfold Program.keyLits
  simp [Tryz.underlying9, hs]
theorem Tryz.ttypes_pos : ∃ d, Tryz.prog.types.size = d + 1 := ⟨Tryz.prog.types.size - 1, by have : 0 < Tryz.prog.types.size := of_decide_eq_true (by kernel_rfl); omega⟩
theorem Tryz.tcells_int : Tryz.prog.cellsOf 3 = 1 := by kernel_rfl
theorem Tryz.tcells_str : Tryz.prog.cellsOf 9 = 1 := by kernel_rfl
theorem Tryz.tcells_key : Tryz.prog.cellsOf 95 = 2 := by kernel_rfl
theorem tcells_agg2 (a b : Value) : (Value.agg #[a, b]).cells.toList = [a, b] := rfl
theorem key_end {p : Nat} {m : List UInt8} (hp : p < 9223372036854775808) (hm : m.length ≤ 1048576) : ∃ kl, keyOf Tryz.prog 95 (kvt p m) = some kl := by
  have hf : (kvt p m).formed Tryz.prog 95 = true := by kernel_rfl
  have hk : Tryz.prog.keyType 95 = true := by kernel_rfl
  obtain ⟨d, hd⟩ := Tryz.ttypes_pos
  have h1 := tlits_int d hp
  obtain ⟨b, h2⟩ := tlits_str d (tx m) (by rw [tx_size]; unfold maxLen; omega)
  unfold keyOf
  simp only [Tryz.underlying95, hf, hk, Bool.and_self, if_true]
  unfold Program.keyLits
  simp [Tryz.underlying95, tcells_agg2, Tryz.tcells_key, Tryz.tcells_int, Tryz.tcells_str, hd, h1, h2]
theorem kvt_inj {p p' : Nat} {m m' : List UInt8} (h : kvt p m = kvt p' m') : p = p' ∧ m = m' := by
  simp only [Value.agg.injEq, Array.mk.injEq, List.cons.injEq, Value.int.injEq, Value.string.injEq, true_and, and_true] at h
  refine ⟨by omega, ?_⟩
  have := congrArg (fun b : ByteArray => b.data.toList) h.2
  simpa using this
/-- The keys that have come, each once. -/
def TakAt (w : World) (mb : Nat) (ks : List (Nat × List UInt8)) : Prop := ∃ f, MapOf Tryz.prog 95 3 w mb ks.length f ∧ ∀ p m, (((p, m) ∈ ks → f (kvt p m) = some 1) ∧ ((p, m) ∉ ks → f (kvt p m) = none))
theorem TakAt.same {w w' : World} {mb : Nat} {ks : List (Nat × List UInt8)} (h : TakAt w mb ks) (hb : w'.heap[mb]? = w.heap[mb]?) : TakAt w' mb ks := by
  obtain ⟨f, h1, h2⟩ := h
  exact ⟨f, h1.same hb, h2⟩
theorem TakAt.lt {w : World} {mb : Nat} {ks : List (Nat × List UInt8)} (h : TakAt w mb ks) : mb < w.heap.size := by
  obtain ⟨f, h1, h2⟩ := h
  exact h1.lt
theorem TakAt.new (w : World) : TakAt (w.alloc (.map #[] 0)) w.heap.size [] := ⟨fun _ => none, MapOf.new _ _ _ w, fun p m => ⟨(fun h => absurd h (by simp)), fun _ => rfl⟩⟩
theorem tzero_int (w : World) : (zeroValue 3).run Tryz.prog w = .ok (.int .i64 0) w := by kernel_rfl


set_option maxHeartbeats 1000000 in
theorem otake {w : World} {mb : Nat} {ks : List (Nat × List UInt8)} (hK : TakAt w mb ks) (p : Nat) (m : List UInt8) (hp : p ≤ 2147483647) (hm : m.length ≤ 1048576) (hks : ks.length ≤ 1048576) :
    Calls Tryz.prog 79 #[.map (some mb), .agg #[.int .i64 p, .string (tx m)]] w fun en w' => en = .returned (.bool (decide ((p, m) ∉ ks))) ∧ ((p, m) ∉ ks → TakAt w' mb (ks ++ [(p, m)])) ∧ w.grownBy w' (some mb) := by
  obtain ⟨f, h1, h2⟩ := hK
  obtain ⟨kl, hkl⟩ := key_end (p := p) (m := m) (by omega) hm
  have hlt := h1.lt
  obtain ⟨W, hW⟩ : ∃ W, W = (w.alloc (eob p m)).drew := ⟨_, rfl⟩
  have hWb : W.heap[mb]? = w.heap[mb]? := by
    rw [hW]
    show (w.alloc (eob p m)).heap[mb]? = _
    rw [heap_old _ _ hlt]
  have M : MapOf Tryz.prog 95 3 W mb ks.length f := h1.same hWb
  have hl0 := M.look1 tKey Tryz.underlying109 Tryz.underlying3 (tzero_int _) hkl
  obtain ⟨v0, st, w1, r1, g1, r2, r3⟩ := M.entry tKeyL Tryz.underlying109 Tryz.underlying3 (fun u => tzero_int u) (by unfold maxLen; omega) hkl
  have hgW : w.grownBy W (some mb) := by rw [hW]; exact ⟨rfl, rfl, rfl, by show w.heap.size ≤ (w.alloc _).heap.size; simp, fun i hi _ => by show (w.alloc (eob p m)).heap[i]? = _; rw [heap_old _ _ hi]⟩
  have hkb : W.heap[w.heap.size]? = some (eob p m) := by rw [hW]; exact new_0 _ _
  have hkb1 := block_grow hkb g1 (by omega)
  have hcell : ∀ u : World, u.heap[w.heap.size]? = some (eob p m) → u.cell? ⟨w.heap.size, 0, none⟩ = some (.int .i64 p) ∧ u.cell? ⟨w.heap.size, 1, none⟩ = some (.string (tx m)) := fun u hu => ⟨by rw [cell_at hu]; rfl, by rw [cell_at hu]; rfl⟩
  by_cases hin : (p, m) ∈ ks
  · have hf := (h2 p m).1 hin
    rw [hf] at hl0 r2
    simp only [Option.getD_some] at hl0 r2
    obtain ⟨w2, s1, s2, s3⟩ := r3 2 (by decide)
    obtain ⟨f', hf'⟩ := upd_exists f (kvt p m) (some 2)
    have M2 := s2 f' hf'
    have hl2 := M2.look1 tKey Tryz.underlying109 Tryz.underlying3 (tzero_int _) hkl
    rw [hf'.1] at hl2
    simp only [Option.getD_some] at hl2
    have hkb2 := block_grow hkb s3 (by omega)
    obtain ⟨a0, a1⟩ := hcell _ hkb
    obtain ⟨b0, b1⟩ := hcell _ hkb1
    obtain ⟨c0, c1⟩ := hcell _ hkb2
    have hd : decide ((p, m) ∉ ks) = false := by simp [hin]
    rw [hd]
    have HR : Hid (((p, m) ∉ ks → TakAt w2 mb (ks ++ [(p, m)])) ∧ w.grownBy w2 (some mb)) := ⟨fun q => absurd hin q, grown_two hgW s3⟩
    have s1' : (Instr.entryStore 109 (.map (some mb)) (.int .i64 st) (.int .i64 2)).run Tryz.prog w1 = .ok () w2 := s1
    clear h1 h2 hkl hWb M r3 g1 hgW hkb hkb1 hcell hin hf s2 s3 hf' M2 hkb2 hd hks hp hm
    subst hW
    go_enter Tryz.func79, Tryz.ntmps79
    go_wp2_with fail
    go_region
    go_wp2
    go_ret
    exact ⟨rfl, HR.out⟩
  · have hf := (h2 p m).2 hin
    rw [hf] at hl0 r2
    simp only [Option.getD_none] at hl0 r2
    obtain ⟨w2, s1, s2, s3⟩ := r3 1 (by decide)
    obtain ⟨f', hf'⟩ := upd_exists f (kvt p m) (some 1)
    have M2 := s2 f' hf'
    have hl2 := M2.look1 tKey Tryz.underlying109 Tryz.underlying3 (tzero_int _) hkl
    rw [hf'.1] at hl2
    simp only [Option.getD_some] at hl2
    have hkb2 := block_grow hkb s3 (by omega)
    obtain ⟨a0, a1⟩ := hcell _ hkb
    obtain ⟨b0, b1⟩ := hcell _ hkb1
    obtain ⟨c0, c1⟩ := hcell _ hkb2
    have hd : decide ((p, m) ∉ ks) = true := by simp [hin]
    rw [hd]
    have HR : Hid (((p, m) ∉ ks → TakAt w2 mb (ks ++ [(p, m)])) ∧ w.grownBy w2 (some mb)) := by
      refine ⟨fun _ => ⟨f', ?_, fun p0 m0 => ⟨fun q => ?_, fun q => ?_⟩⟩, grown_two hgW s3⟩
      · rw [hf] at M2
        simpa using M2
      · by_cases e : (p0, m0) = (p, m)
        · obtain ⟨rfl, rfl⟩ := Prod.mk.inj e
          exact hf'.1
        · rw [hf'.2 _ (fun h => e (by obtain ⟨a, b⟩ := kvt_inj h; rw [a, b]))]
          refine (h2 p0 m0).1 ?_
          rcases List.mem_append.1 q with q | q
          · exact q
          · exact absurd (List.mem_singleton.1 q) e
      · have hne : (p0, m0) ≠ (p, m) := fun e => q (List.mem_append.2 (Or.inr (by rw [e]; simp)))
        rw [hf'.2 _ (fun h => hne (by obtain ⟨a, b⟩ := kvt_inj h; rw [a, b]))]
        exact (h2 p0 m0).2 (fun h => q (List.mem_append.2 (Or.inl h)))
    have s1' : (Instr.entryStore 109 (.map (some mb)) (.int .i64 st) (.int .i64 1)).run Tryz.prog w1 = .ok () w2 := s1
    clear h1 h2 hkl hWb M r3 g1 hgW hkb hkb1 hcell hin hf s2 s3 hf' M2 hkb2 hd hks hp hm
    subst hW
    go_enter Tryz.func79, Tryz.ntmps79
    go_wp2_with fail
    go_region
    go_wp2
    go_ret
    exact ⟨rfl, HR.out⟩
end Go.Proofs.YtkepgjijidebhaaGreatDoor
