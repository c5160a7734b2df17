/-
  When a link may stand where it stands, as the program asks it. Plain mathematics: no program is named here.
  The program's words of a device.
  The program's words of a device; a line of words that is said.
  A builder that is written to: blocks of another kind than its bytes stay (as WBuild, with that said too).
  The document's put: a text among others, rising, once.
-/
import Derived.Test.YtebaopiedlioiaaGreatDoorJDocNAnd
import Derived.Test.YtebaopiedlioiaaGreatDoorJInsAnd
import Derived.Laws.AppendOwnNone
import Derived.Deep.AppendLies
import Derived.Test.YtebaopiedlioiaaGreatDoorWBuildAnd
import Derived.Test.YtebaopiedlioiaaGreatDoorJDocKAnd
import Derived.Test.YtebaopiedlioiaaGreatDoorWRefSAnd
namespace Go.Proofs.YtebaopiedlioiaaGreatDoor
open Go.RowKit

theorem pos_is {s : List UInt8} : ∀ {l : List (List UInt8)} {i : Nat}, i ≤ l.length → (∀ (t : Nat) (x : List UInt8), t < i → l[t]? = some x → x < s) → (∀ x, l[i]? = some x → ¬ x < s) → To.pos s l = i
  | [], i, h, _, _ => by simp at h; rw [h]; rfl
  | a :: r, 0, _, _, k => by
    unfold To.pos
    rw [if_neg (k a rfl)]
  | a :: r, i + 1, h, h1, k => by
    unfold To.pos
    rw [if_pos (h1 0 a (by omega) rfl), pos_is (by simpa using h) (fun t x ht hx => h1 (t + 1) x (by omega) (by simpa using hx)) (fun x hx => k x (by simpa using hx))]
theorem Tryz.infoStrP : (Tryz.prog.info? 9).map (fun i => (i.zero, i.size, i.bytes)) = some (some (.string (tx [])), 1, 16) := by kernel_rfl
theorem own_txsP {w : World} {B : Nat} {v : Value} {zs : List (List UInt8)} (h : w.ownsRow B 9 1 v zs.length (svs zs)) : Txs w v zs := by
  rcases h.2 with ⟨e, h0⟩ | ⟨g, cap, cur, e, hB, hh, hn, _, _, ht⟩
  · have : zs = [] := List.length_eq_zero_iff.1 h0
    subst this
    exact ⟨none, 0, e, .inl rfl⟩
  · refine ⟨_, cap, e, ?_⟩
    by_cases hz : zs = []
    · exact .inl hz
    · refine .inr ⟨g, 0, rfl, lt_of_block hh, fun i hi => ?_⟩
      rw [Nat.zero_add, cell_at hh, ← Array.getElem?_toList]
      have : (cur.toList.take (zs.length * 1))[i]? = some (.string (tx (zs.getD i []))) := by
        rw [ht]; unfold svs; rw [List.getElem?_map, List.getD_eq_getElem?_getD, List.getElem?_eq_getElem hi]; rfl
      rw [List.getElem?_take, if_pos (by omega)] at this
      exact this

theorem growRefl (w : World) (row : Option Nat) : w.grownBy w row := ⟨rfl, rfl, rfl, Nat.le_refl _, fun _ _ _ => rfl⟩
theorem wpList_append_srcJ {P : Program} (w : World) {ops : Array Oper} {rest : List Oper} {o : Oper} {a : Act} {Q : Exit → Act → World → Prop} (hgd : o.guard = none) (s x : Operand) (t : TypeId)
    (ho : o.op = .call { callee := .builtin .append, args := #[s, x], argTypes := #[t, t] })
    (base : Nat) (e : TypeId) (i : TypeInfo) (z : Value) (size bytes : Nat) (ht : P.underlying t = some (.slice e)) (hi : P.info? e = some i) (hz : i.zero = some z)
    (hsize : i.size = size) (hby : i.bytes = bytes) (hzs : z.cells.size = size) (hsz : 0 < size)
    (v : Value) (n : Nat) (xs : List Value) (hs : a.eval s = v) (hown : w.ownsRow base e size v n xs)
    (vx : Value) (m : Nat) (news : List Value) (hx : a.eval x = vx) (hsrc : (vx = .slice none 0 0 ∧ m = 0 ∧ news = []) ∨ ∃ ad c, vx = .slice (some ad) m c ∧ news.length = m * size ∧ ∀ j u, news[j]? = some u → w.cell? (ad.add j) = some u) (h1 : ∀ u ∈ news, u.oneCell' = true)
    (h63 : n + m ≤ maxLen) (hbytes : (n + m) * bytes ≤ 140737488355328) (hbase : base ≤ w.heap.size)
    (h : ∀ v' w', w'.ownsRow base e size v' (n + m) (xs ++ news) → w.grownBy w' v.ownBlock → wpList P ops Q rest (a.put o.dst v') w') :
    wpList P ops Q (o :: rest) a w := by
  rcases hsrc with ⟨rfl, rfl, rfl⟩ | ⟨ad, c, rfl, hl, hc⟩
  · refine wpList_append_own_none hgd s x t ho base e i size ht hi v n xs hs hown hx ?_
    exact h v w (by simpa using hown) (growRefl _ _)
  · refine wpList_append_own_at w hgd s x t ho base e i z size bytes ht hi hz hsize hby hzs hsz v n xs hs hown ad m c news hx hl hc h1 h63 hbytes hbase ?_
    intro v' w' h1 h2 _ _
    exact h v' w' h1 h2

theorem own_weakP {w : World} {B B' : Nat} {v : Value} {n : Nat} {xs : List Value} (h : w.ownsRow B' 9 1 v n xs) (hB : B ≤ B') : w.ownsRow B 9 1 v n xs :=
  ⟨h.1, h.2.imp id fun ⟨g, cap, cur, e, hb, r⟩ => ⟨g, cap, cur, e, Nat.le_trans hB hb, r⟩⟩
/-- An empty row of one's own, just made. -/
theorem own_madeP (w : World) : (w.alloc (.cells #[] 9)).ownsRow w.heap.size 9 1 (.slice (some ⟨w.heap.size, 0, none⟩) 0 0) 0 [] :=
  ⟨rfl, .inr ⟨w.heap.size, 0, #[], rfl, Nat.le_refl _, new_0 _ _, Nat.le_refl _, by decide, rfl, rfl⟩⟩
theorem svs_oneP (l : List (List UInt8)) : ∀ u ∈ svs l, u.oneCell' = true := fun u hu => by
  unfold svs at hu
  obtain ⟨a, -, rfl⟩ := List.mem_map.1 hu
  rfl
/-- A row that grew, and what lies below it. -/
theorem grew_belowP {w a b : World} {W0 : Nat} {v : Value} {n : Nat} {xs : List Value} (hW : W0 ≤ w.heap.size) (hb : Below W0 w a) (ho : a.ownsRow W0 9 1 v n xs) (hg : a.grownBy b v.ownBlock) : Below W0 w b :=
  ⟨hg.os.trans hb.os, hg.tape.trans hb.tape, hg.output.trans hb.output, Nat.le_trans hb.size hg.size, fun i hi => by
    rw [hg.block i (by have := hb.size; omega) (fun r => by have := (ho.lt i r.symm).1; omega), hb.block i hi]⟩

set_option maxRecDepth 20000 in
set_option maxHeartbeats 2000000 in
theorem Rput_any {w : World} {B : Nat} {v : Value} {zs : List (List UInt8)} {s : List UInt8} (h : w.ownsRow B 9 1 v zs.length (svs zs)) (hB : B ≤ w.heap.size) (hn : zs.length ≤ 1000) :
    Calls Tryz.prog 101 #[v, .string (tx s)] w fun e w' => ∃ v', e = .returned v' ∧ w'.ownsRow B 9 1 v' (Ru.put zs s).length (svs (Ru.put zs s)) ∧ Below w.heap.size w w' := by
  obtain ⟨i0, hi, hz0, hz1, hz2⟩ := info_parts Tryz.infoStrP
  have HI := hid hi
  have HZ0 := hid hz0
  have HZ1 := hid hz1
  have HZ2 := hid hz2
  clear hi hz0 hz1 hz2
  obtain ⟨n, hnn⟩ : ∃ n, n = zs.length := ⟨_, rfl⟩
  have HN := hid hnn
  have HT := hid (own_txsP h)
  have HPL := hid (fun W (hb : Below w.heap.size w W) => Rplace_any (t := s) (HT.out.below hb) (Nat.le_trans hn (by decide)))
  have hpz := plZ_neg s zs
  obtain ⟨pz, hpz'⟩ : ∃ z, z = plZ s zs := ⟨_, rfl⟩
  rw [← hpz'] at HPL hpz
  have HP1 := hid (HPL.out w (Below.refl _ _))
  have HOW := hid h
  obtain ⟨W0, hW0⟩ : ∃ W0, W0 = w.heap.size := ⟨_, rfl⟩
  have HW0 := hid hW0
  clear hpz' HPL
  by_cases hm : s ∈ zs
  · have hc : decide (pz < 0) = false := by rw [hpz, List.contains_iff_mem.2 hm]; rfl
    have hp0 : 0 ≤ pz := by have := of_decide_eq_false hc; omega
    have HE := hid (show w.ownsRow B 9 1 v (Ru.put zs s).length (svs (Ru.put zs s)) from by
      rw [To.put_old hm]; exact HOW.out)
    obtain ⟨ao, cap, hv⟩ := own_formJ h
    subst hv
    rw [← hnn] at HP1 HE ⊢
    clear hm hc hpz h hnn hW0
    go_enter Tryz.func101, Tryz.ntmps101
    go_wp2_with fail
    refine HP1.out.mono ?_
    rintro en w2 ⟨rfl, hw2⟩
    obtain rfl : w = w2 := hw2.symm
    go_wp2
    go_ret
    exact ⟨_, rfl, HE.out, Below.refl _ _⟩
  · have hc : decide (pz < 0) = true := by rw [hpz, Bool.eq_false_iff.2 (fun q => hm (List.contains_iff_mem.1 q))]; rfl
    have hp0 : pz < 0 := of_decide_eq_true hc
    have hp1 : ¬ 0 ≤ pz := by omega
    have HPN := hid (To.put_new hm)
    have HM0 := hid (own_madeP w)
    have HB0 := hid (show Below w.heap.size w (w.alloc (.cells #[] 9)) from (Below.refl _ _).alloc (Nat.le_refl _) _)
    rw [← hW0] at HM0 HB0
    have hWle : W0 ≤ w.heap.size := Nat.le_of_eq hW0
    have HWB := hid (show B ≤ W0 from by rw [hW0]; exact hB)
    have HFN := hid (fun (j : Nat) (hp : To.pos s zs = j) (v3 : Value) (w3 : World) (n3 : Nat) (h3 : w3.ownsRow W0 9 1 v3 n3 (svs (zs.take j) ++ .string (tx s) :: svs (zs.drop j))) => (show w3.ownsRow B 9 1 v3 (Ru.put zs s).length (svs (Ru.put zs s)) from by
      have e : svs (zs.take j) ++ .string (tx s) :: svs (zs.drop j) = svs (Ru.put zs s) := by
        rw [HPN.out, hp]; unfold svs; simp
      rw [e] at h3
      have hl : n3 = (Ru.put zs s).length := by have := h3.1; unfold svs at this; simp at this; omega
      rw [hl] at h3
      exact own_weakP h3 HWB.out))
    rcases h.2 with ⟨e, h0⟩ | ⟨g, cap, cur, e, hBg, hh, hnc, -, -, ht⟩
    · subst e
      have hz : zs = [] := List.length_eq_zero_iff.1 h0
      subst hz
      have hn0 : n = 0 := hnn
      subst hn0
      clear hm hc hpz h hnn h0 hW0 hB
      go_enter Tryz.func101, Tryz.ntmps101
      go_wp2_with fail
      refine HP1.out.mono ?_
      rintro en w2 ⟨rfl, hw2⟩
      obtain rfl : w = w2 := hw2.symm
      go_wp2_with fail
      go_loopw [5] (fun i wr => ∃ j : Nat, j ≤ 0 ∧ i = .int .i64 j ∧ Hid (∀ (t : Nat) (x : List UInt8), t < j → ([] : List (List UInt8))[t]? = some x → x < s) ∧ Hid (wr = w)) (fun i _ => 0 - (intOf i).toNat)
      case atStart => exact ⟨0, Nat.zero_le _, rfl, hid fun t x h => absurd h (Nat.not_lt_zero _), hid rfl⟩
      case round =>
        obtain ⟨j, hj, rfl, hA, hW⟩ := hrel
        obtain rfl := hW.out
        have hj0 : j = 0 := by omega
        subst hj0
        have HFIN := hid (HFN.out 0 rfl)
        go_upto_region 6 with fail
        go_wp2_with (first | (at_builtin; refine wpList_append_srcJ _ rfl (.tmp 26) (.tmp 29) 47 rfl W0 9 i0 (.string (tx [])) 1 16 Tryz.underlying47 HI.out HZ0.out HZ1.out HZ2.out rfl (by decide) (.slice (some ⟨W0, 0, none⟩) 0 0) 0 [] (by rw [HW0.out]; rfl) HM0.out _ (0) (svs (([] : List (List UInt8)).take 0)) rfl (.inl ⟨rfl, rfl, rfl⟩) (svs_oneP _) (by unfold maxLen; omega) (by omega) (by have := HB0.out.size; omega) ?_))
        intro v1 w1 hown1 hg1
        have HB1 := hid (grew_belowP hWle HB0.out HM0.out hg1)
        (try rw [Nat.zero_add] at hown1); (try rw [List.nil_append] at hown1)
        have HO1 := hid hown1
        clear hown1 hg1
        obtain ⟨a1, c1, rfl⟩ := own_formJ HO1.out
        have HO1a := hid (fun (ob : Obj) => (show (w1.alloc ob).ownsRow W0 9 1 (.slice a1 (0) c1) (0) (svs (([] : List (List UInt8)).take 0)) from own_sameJ HO1.out fun i r => by rw [Below.heap_alloc _ _ _ (HO1.out.lt i r).2]))
        have HB1a := hid (fun (ob : Obj) => (show Below W0 wr (w1.alloc ob) from HB1.out.alloc (by have := HB1.out.size; omega) _))
        go_wp2_with (first | (at_builtin; refine wpList_append_srcJ _ rfl (.tmp 31) (.tmp 33) 47 rfl W0 9 i0 (.string (tx [])) 1 16 Tryz.underlying47 HI.out HZ0.out HZ1.out HZ2.out rfl (by decide) (.slice a1 (0) c1) (0) (svs (([] : List (List UInt8)).take 0)) rfl (HO1a.out _) _ 1 [.string (tx s)] rfl (.inr ⟨⟨w1.heap.size, 0, none⟩, 1, rfl, rfl, World.news_of_block (new_0 w1 _)⟩) (by simp [Value.oneCell']) (by unfold maxLen; omega) (by omega) (by have := (HB1a.out (.cells #[.string (tx s)] 9)).size; omega) ?_))
        intro v2 w2 hown2 hg2
        have HB2 := hid (grew_belowP hWle (HB1a.out _) (HO1a.out _) hg2)
        have HO2 := hid hown2
        clear hown2 hg2
        obtain ⟨a2, c2, rfl⟩ := own_formJ HO2.out
        go_wp2_with (first | (at_builtin; refine wpList_append_srcJ _ rfl (.tmp 35) (.tmp 38) 47 rfl W0 9 i0 (.string (tx [])) 1 16 Tryz.underlying47 HI.out HZ0.out HZ1.out HZ2.out rfl (by decide) (.slice a2 (0 + 1) c2) (0 + 1) (svs (([] : List (List UInt8)).take 0) ++ [.string (tx s)]) rfl HO2.out _ (0) ([]) rfl (.inl ⟨rfl, rfl, rfl⟩) (by simp) (by unfold maxLen; omega) (by omega) (by have := HB2.out.size; omega) ?_))
        intro v3 w3 hown3 hg3
        have HB3 := hid (grew_belowP hWle HB2.out HO2.out hg3)
        have HO3 := hid hown3
        clear hown3 hg3
        go_wp2
        go_ret
        exact ⟨_, rfl, HFIN.out _ _ _ HO3.out, HW0.out ▸ HB3.out⟩
    · subst e
      have hcell : ∀ (i : Nat) (x : List UInt8), zs[i]? = some x → w.cell? ⟨g, i, none⟩ = some (.string (tx x)) := fun i x hx => by
        have hi := (List.getElem?_eq_some_iff.1 hx).1
        rw [cell_at hh, ← Array.getElem?_toList]
        have : (cur.toList.take (zs.length * 1))[i]? = some (.string (tx x)) := by
          rw [ht]; unfold svs; rw [List.getElem?_map, hx]; rfl
        rw [List.getElem?_take, if_pos (by omega)] at this
        exact this
      have hgl : g < W0 := by rw [hW0]; exact lt_of_block hh
      have HCE := hid hcell
      have HTL := hid (fun (j : Nat) (hj : j ≤ n) => (show (svs (zs.take j)).length = j * 1 from by unfold svs; rw [List.length_map, List.length_take]; omega))
      have HSR := hid (fun (W : World) (hb : Below W0 w W) (i : Nat) (x : List UInt8) (hx : zs[i]? = some x) => (World.cell?_of_block (a := ⟨g, i, none⟩) (hb.block g hgl)).trans (hcell i x hx))
      have hncI : n ≤ cap := by rw [hnn]; exact hnc
      have hn2 : n ≤ 1000 := by rw [hnn]; exact hn
      rw [← hnn] at HP1 ⊢
      clear hm hc hpz h hh hnc ht hnn hW0 hcell hB
      go_enter Tryz.func101, Tryz.ntmps101
      go_wp2_with fail
      refine HP1.out.mono ?_
      rintro en w2 ⟨rfl, hw2⟩
      obtain rfl : w = w2 := hw2.symm
      go_wp2_with fail
      go_loopw [5] (fun i wr => ∃ j : Nat, j ≤ n ∧ i = .int .i64 j ∧ Hid (∀ (t : Nat) (x : List UInt8), t < j → zs[t]? = some x → x < s) ∧ Hid (wr = w)) (fun i _ => n - (intOf i).toNat)
      case atStart => exact ⟨0, Nat.zero_le _, rfl, hid fun t x h => absurd h (Nat.not_lt_zero _), hid rfl⟩
      case round =>
        obtain ⟨j, hj, rfl, hA, hW⟩ := hrel
        obtain rfl := hW.out
        have HS1 := hid (fun (i : Nat) (u : Value) (hu : (svs (zs.take j))[i]? = some u) => (by
          unfold svs at hu
          rw [List.getElem?_map, Option.map_eq_some_iff] at hu
          obtain ⟨x, hx, rfl⟩ := hu
          rw [List.getElem?_take] at hx
          split at hx
          · have := (World.cell?_of_block (a := ⟨g, i, none⟩) (HB0.out.block g hgl)).trans (HCE.out i x hx)
            rw [show (⟨g, 0, none⟩ : Addr).add i = ⟨g, i, none⟩ by unfold Addr.add; split <;> simp_all]
            exact this
          · exact absurd hx (by simp) : (wr.alloc (.cells #[] 9)).cell? ((⟨g, 0, none⟩ : Addr).add i) = some u))
        by_cases hlt : j < n
        · obtain ⟨x, hx⟩ : ∃ x, zs[j]? = some x := ⟨_, List.getElem?_eq_getElem (by have := HN.out; omega)⟩
          have y0 := HCE.out j x hx
          have jI : (j : Int) < (n : Int) := by omega
          have j0 : (0 : Int) ≤ (j : Int) := by omega
          have jc : (j : Int) ≤ (cap : Int) := by omega
          have jcn : j ≤ cap := by omega
          have HX := hid hx
          clear hx
          by_cases hl : x < s
          · have h1 : Op.bytesLess x s = true := by rw [bytesLess_eq]; exact decide_eq_true hl
            have HA2 := hid (show ∀ (t : Nat) (y : List UInt8), t < j + 1 → zs[t]? = some y → y < s from fun t y ht hy => by
              by_cases e : t = j
              · rw [e, HX.out] at hy
                injection hy with hy
                rw [← hy]; exact hl
              · exact hA.out t y (by omega) hy)
            clear hl HS1
            go_wp2
            go_roundw
            case rel => exact ⟨j + 1, by omega, by go_num, HA2, hid trivial⟩
            case measure => simp [intOf]; omega
          · have h1 : Op.bytesLess x s = false := by rw [bytesLess_eq]; exact decide_eq_false hl
            have HFIN := hid (HFN.out j (pos_is (by have := HN.out; omega) hA.out (fun y hy => by rw [HX.out] at hy; injection hy with hy; rw [← hy]; exact hl)))
            have HNL := hid (show (svs (zs.drop j)).length = (n - j) * 1 from by unfold svs; rw [List.length_map, List.length_drop, ← HN.out]; omega)
            clear hl
            go_upto_region 6 with fail
            go_wp2_with (first | (at_builtin; refine wpList_append_srcJ _ rfl (.tmp 26) (.tmp 29) 47 rfl W0 9 i0 (.string (tx [])) 1 16 Tryz.underlying47 HI.out HZ0.out HZ1.out HZ2.out rfl (by decide) (.slice (some ⟨W0, 0, none⟩) 0 0) 0 [] (by rw [HW0.out]; rfl) HM0.out _ (j) (svs (zs.take (j))) rfl (.inr ⟨⟨g, 0, none⟩, _, rfl, HTL.out _ (by omega), HS1.out⟩) (svs_oneP _) (by unfold maxLen; omega) (by omega) (by have := HB0.out.size; omega) ?_))
            intro v1 w1 hown1 hg1
            have HB1 := hid (grew_belowP hWle HB0.out HM0.out hg1)
            (try rw [Nat.zero_add] at hown1); (try rw [List.nil_append] at hown1)
            have HO1 := hid hown1
            clear hown1 hg1
            obtain ⟨a1, c1, rfl⟩ := own_formJ HO1.out
            have HO1a := hid (fun (ob : Obj) => (show (w1.alloc ob).ownsRow W0 9 1 (.slice a1 (j) c1) (j) (svs (zs.take (j))) from own_sameJ HO1.out fun i r => by rw [Below.heap_alloc _ _ _ (HO1.out.lt i r).2]))
            have HB1a := hid (fun (ob : Obj) => (show Below W0 wr (w1.alloc ob) from HB1.out.alloc (by have := HB1.out.size; omega) _))
            go_wp2_with (first | (at_builtin; refine wpList_append_srcJ _ rfl (.tmp 31) (.tmp 33) 47 rfl W0 9 i0 (.string (tx [])) 1 16 Tryz.underlying47 HI.out HZ0.out HZ1.out HZ2.out rfl (by decide) (.slice a1 (j) c1) (j) (svs (zs.take (j))) rfl (HO1a.out _) _ 1 [.string (tx s)] rfl (.inr ⟨⟨w1.heap.size, 0, none⟩, 1, rfl, rfl, World.news_of_block (new_0 w1 _)⟩) (by simp [Value.oneCell']) (by unfold maxLen; omega) (by omega) (by have := (HB1a.out (.cells #[.string (tx s)] 9)).size; omega) ?_))
            intro v2 w2 hown2 hg2
            have HB2 := hid (grew_belowP hWle (HB1a.out _) (HO1a.out _) hg2)
            have HO2 := hid hown2
            clear hown2 hg2
            obtain ⟨a2, c2, rfl⟩ := own_formJ HO2.out
            have HSD := hid (fun (i : Nat) (u : Value) (hu : (svs (zs.drop j))[i]? = some u) => (by
              unfold svs at hu
              rw [List.getElem?_map, Option.map_eq_some_iff] at hu
              obtain ⟨y, hy, rfl⟩ := hu
              rw [List.getElem?_drop] at hy
              have := HSR.out w2 HB2.out (j + i) y hy
              rw [show (⟨g, j, none⟩ : Addr).add i = ⟨g, j + i, none⟩ by unfold Addr.add; split <;> simp_all]
              exact this : w2.cell? ((⟨g, j, none⟩ : Addr).add i) = some u))
            go_wp2_with (first | (at_builtin; refine wpList_append_srcJ _ rfl (.tmp 35) (.tmp 38) 47 rfl W0 9 i0 (.string (tx [])) 1 16 Tryz.underlying47 HI.out HZ0.out HZ1.out HZ2.out rfl (by decide) (.slice a2 (j + 1) c2) (j + 1) (svs (zs.take (j)) ++ [.string (tx s)]) rfl HO2.out _ (n - j) (svs (zs.drop j)) rfl (.inr ⟨⟨g, j, none⟩, _, rfl, HNL.out, HSD.out⟩) (svs_oneP _) (by unfold maxLen; omega) (by omega) (by have := HB2.out.size; omega) ?_))
            intro v3 w3 hown3 hg3
            have HB3 := hid (grew_belowP hWle HB2.out HO2.out hg3)
            have HO3 := hid hown3
            clear hown3 hg3
            go_wp2
            go_ret
            exact ⟨_, rfl, HFIN.out _ _ _ HO3.out, HW0.out ▸ HB3.out⟩
        · have hjn : j = n := by omega
          subst hjn
          have HFIN0 := hid (HFN.out j (pos_is (by have := HN.out; omega) hA.out (fun y hy => by have := (List.getElem?_eq_some_iff.1 hy).1; have := HN.out; omega)))
          have HFIN := hid (show ∀ (v3 : Value) (w3 : World) (n3 : Nat), w3.ownsRow W0 9 1 v3 n3 (svs (zs.take j) ++ [.string (tx s)]) → w3.ownsRow B 9 1 v3 (Ru.put zs s).length (svs (Ru.put zs s)) from fun v3 w3 n3 h3 => HFIN0.out v3 w3 n3 (by rw [List.drop_eq_nil_of_le (by rw [← HN.out]; exact Nat.le_refl _)]; simpa [svs] using h3))
          clear HFIN0
          have jI : ¬ (j : Int) < (j : Int) := by omega
          rcases Nat.lt_or_eq_of_le hncI with hcl | hcl
          · have jc : (j : Int) ≤ (cap : Int) := by omega
            go_upto_region 6 with fail
            go_wp2_with (first | (at_builtin; refine wpList_append_srcJ _ rfl (.tmp 26) (.tmp 29) 47 rfl W0 9 i0 (.string (tx [])) 1 16 Tryz.underlying47 HI.out HZ0.out HZ1.out HZ2.out rfl (by decide) (.slice (some ⟨W0, 0, none⟩) 0 0) 0 [] (by rw [HW0.out]; rfl) HM0.out _ (j) (svs (zs.take (j))) rfl (.inr ⟨⟨g, 0, none⟩, _, rfl, HTL.out _ (by omega), HS1.out⟩) (svs_oneP _) (by unfold maxLen; omega) (by omega) (by have := HB0.out.size; omega) ?_))
            intro v1 w1 hown1 hg1
            have HB1 := hid (grew_belowP hWle HB0.out HM0.out hg1)
            (try rw [Nat.zero_add] at hown1); (try rw [List.nil_append] at hown1)
            have HO1 := hid hown1
            clear hown1 hg1
            obtain ⟨a1, c1, rfl⟩ := own_formJ HO1.out
            have HO1a := hid (fun (ob : Obj) => (show (w1.alloc ob).ownsRow W0 9 1 (.slice a1 (j) c1) (j) (svs (zs.take (j))) from own_sameJ HO1.out fun i r => by rw [Below.heap_alloc _ _ _ (HO1.out.lt i r).2]))
            have HB1a := hid (fun (ob : Obj) => (show Below W0 wr (w1.alloc ob) from HB1.out.alloc (by have := HB1.out.size; omega) _))
            go_wp2_with (first | (at_builtin; refine wpList_append_srcJ _ rfl (.tmp 31) (.tmp 33) 47 rfl W0 9 i0 (.string (tx [])) 1 16 Tryz.underlying47 HI.out HZ0.out HZ1.out HZ2.out rfl (by decide) (.slice a1 (j) c1) (j) (svs (zs.take (j))) rfl (HO1a.out _) _ 1 [.string (tx s)] rfl (.inr ⟨⟨w1.heap.size, 0, none⟩, 1, rfl, rfl, World.news_of_block (new_0 w1 _)⟩) (by simp [Value.oneCell']) (by unfold maxLen; omega) (by omega) (by have := (HB1a.out (.cells #[.string (tx s)] 9)).size; omega) ?_))
            intro v2 w2 hown2 hg2
            have HB2 := hid (grew_belowP hWle (HB1a.out _) (HO1a.out _) hg2)
            have HO2 := hid hown2
            clear hown2 hg2
            obtain ⟨a2, c2, rfl⟩ := own_formJ HO2.out
            go_wp2_with (first | (at_builtin; refine wpList_append_srcJ _ rfl (.tmp 35) (.tmp 38) 47 rfl W0 9 i0 (.string (tx [])) 1 16 Tryz.underlying47 HI.out HZ0.out HZ1.out HZ2.out rfl (by decide) (.slice a2 (j + 1) c2) (j + 1) (svs (zs.take (j)) ++ [.string (tx s)]) rfl HO2.out _ 0 [] rfl (.inr ⟨_, _, rfl, rfl, fun i u hu => absurd hu (by simp)⟩) (by simp) (by unfold maxLen; omega) (by omega) (by have := HB2.out.size; omega) ?_))
            intro v3 w3 hown3 hg3
            have HB3 := hid (grew_belowP hWle HB2.out HO2.out hg3)
            have HO3 := hid hown3
            clear hown3 hg3
            go_wp2
            go_ret
            exact ⟨_, rfl, HFIN.out _ _ _ HO3.out, HW0.out ▸ HB3.out⟩
          · subst hcl
            have jc : (j : Int) ≤ (j : Int) := by omega
            go_upto_region 6 with fail
            go_wp2_with (first | (at_builtin; refine wpList_append_srcJ _ rfl (.tmp 26) (.tmp 29) 47 rfl W0 9 i0 (.string (tx [])) 1 16 Tryz.underlying47 HI.out HZ0.out HZ1.out HZ2.out rfl (by decide) (.slice (some ⟨W0, 0, none⟩) 0 0) 0 [] (by rw [HW0.out]; rfl) HM0.out _ (j) (svs (zs.take (j))) rfl (.inr ⟨⟨g, 0, none⟩, _, rfl, HTL.out _ (by omega), HS1.out⟩) (svs_oneP _) (by unfold maxLen; omega) (by omega) (by have := HB0.out.size; omega) ?_))
            intro v1 w1 hown1 hg1
            have HB1 := hid (grew_belowP hWle HB0.out HM0.out hg1)
            (try rw [Nat.zero_add] at hown1); (try rw [List.nil_append] at hown1)
            have HO1 := hid hown1
            clear hown1 hg1
            obtain ⟨a1, c1, rfl⟩ := own_formJ HO1.out
            have HO1a := hid (fun (ob : Obj) => (show (w1.alloc ob).ownsRow W0 9 1 (.slice a1 (j) c1) (j) (svs (zs.take (j))) from own_sameJ HO1.out fun i r => by rw [Below.heap_alloc _ _ _ (HO1.out.lt i r).2]))
            have HB1a := hid (fun (ob : Obj) => (show Below W0 wr (w1.alloc ob) from HB1.out.alloc (by have := HB1.out.size; omega) _))
            go_wp2_with (first | (at_builtin; refine wpList_append_srcJ _ rfl (.tmp 31) (.tmp 33) 47 rfl W0 9 i0 (.string (tx [])) 1 16 Tryz.underlying47 HI.out HZ0.out HZ1.out HZ2.out rfl (by decide) (.slice a1 (j) c1) (j) (svs (zs.take (j))) rfl (HO1a.out _) _ 1 [.string (tx s)] rfl (.inr ⟨⟨w1.heap.size, 0, none⟩, 1, rfl, rfl, World.news_of_block (new_0 w1 _)⟩) (by simp [Value.oneCell']) (by unfold maxLen; omega) (by omega) (by have := (HB1a.out (.cells #[.string (tx s)] 9)).size; omega) ?_))
            intro v2 w2 hown2 hg2
            have HB2 := hid (grew_belowP hWle (HB1a.out _) (HO1a.out _) hg2)
            have HO2 := hid hown2
            clear hown2 hg2
            obtain ⟨a2, c2, rfl⟩ := own_formJ HO2.out
            go_wp2_with (first | (at_builtin; refine wpList_append_srcJ _ rfl (.tmp 35) (.tmp 38) 47 rfl W0 9 i0 (.string (tx [])) 1 16 Tryz.underlying47 HI.out HZ0.out HZ1.out HZ2.out rfl (by decide) (.slice a2 (j + 1) c2) (j + 1) (svs (zs.take (j)) ++ [.string (tx s)]) rfl HO2.out _ 0 [] rfl (.inr ⟨_, _, rfl, rfl, fun i u hu => absurd hu (by simp)⟩) (by simp) (by unfold maxLen; omega) (by omega) (by have := HB2.out.size; omega) ?_))
            intro v3 w3 hown3 hg3
            have HB3 := hid (grew_belowP hWle HB2.out HO2.out hg3)
            have HO3 := hid hown3
            clear hown3 hg3
            go_wp2
            go_ret
            exact ⟨_, rfl, HFIN.out _ _ _ HO3.out, HW0.out ▸ HB3.out⟩
end Go.Proofs.YtebaopiedlioiaaGreatDoor
namespace Go.Proofs.YtebaopiedlioiaaGreatDoor
open Go.RowKit

/-- All blocks stay but one, and those of bytes. -/
def FrT (b : Nat) (w w' : World) : Prop := ∀ (k : Nat) (cs : Array Value) (t : TypeId) (fz : Nat × Nat), k ≠ b → w.heap[k]? = some (.cells cs t fz) → t ≠ 5 → w'.heap[k]? = w.heap[k]?
theorem FrT.refl (b : Nat) (w : World) : FrT b w w := fun _ _ _ _ _ _ _ => rfl
theorem FrT.trans {b : Nat} {w w1 w2 : World} (h : FrT b w w1) (h2 : FrT b w1 w2) : FrT b w w2 := fun k cs t fz hk hc ht => by
  have e := h k cs t fz hk hc ht
  exact (h2 k cs t fz hk (e.trans hc) ht).trans e
theorem FrT.below {b : Nat} {w w' : World} (h : Below w.heap.size w w') : FrT b w w' := fun k _ _ _ _ hc _ => h.block k (lt_of_block hc)
theorem check_frT (B b : Nat) (l : List UInt8) (w : World) (h : Bu B b l w) :
    Calls Tryz.prog 144 #[.pointer (some ⟨b, 0, none⟩)] w fun e w' => e = .returned (.tuple #[]) ∧ Lib.BuilderAt 131 5 B b (.pointer (some ⟨b, 0, none⟩)) (Lib.byteCells l) w' ∧ Below B w w' ∧ FrT b w w' := by
  rcases h with h | h
  · refine (check_fresh b w h.cell0 h.shape h.frozen0).mono ?_
    rintro e w' ⟨rfl, rfl⟩
    exact ⟨rfl, h.used _, (Below.refl B w).setCell (p := ⟨b, 0, none⟩) h.1 _, fun k cs t fz hk _ _ => Below.heap_setCell _ _ _ _ (by exact hk)⟩
  · refine (check_used b w h.cell0).mono ?_
    rintro e w' ⟨rfl, rfl⟩
    exact ⟨rfl, h, Below.refl B _, FrT.refl _ _⟩
theorem FrT.put {B b : Nat} {bs : List Value} {v : Value} {n : Nat} {w wa w2 : World} (hown : w.ownsRow B 5 1 v n bs) (ha : wa = w ∨ ∃ o, wa = w.alloc o) (hg : wa.grownBy w2 v.ownBlock) (v' : Value) : FrT b w (w2.setCell ⟨b, 1, none⟩ v') := fun k cs t fz hk hc ht => by
  have hlt := lt_of_block hc
  have e1 : wa.heap[k]? = w.heap[k]? := by
    rcases ha with rfl | ⟨o, rfl⟩
    · rfl
    · exact Below.heap_alloc _ _ _ hlt
  have hl : k < wa.heap.size := by
    rcases ha with rfl | ⟨o, rfl⟩
    · exact hlt
    · simp; omega
  have hne : v.ownBlock ≠ some k := fun q => by
    rcases hown.2 with ⟨e, _⟩ | ⟨g, cap, cur, e, _, hh, _⟩
    · rw [e] at q; simp [Value.ownBlock] at q
    · rw [e] at q
      simp only [Value.ownBlock, Option.some.injEq] at q
      subst q
      rw [hh] at hc
      simp only [Option.some.injEq, Obj.cells.injEq] at hc
      exact ht hc.2.1.symm
  rw [Below.heap_setCell _ _ _ _ (by exact hk)]
  exact (hg.block k hl (fun q => hne q.symm)).trans e1

set_option maxRecDepth 100000 in
set_option maxHeartbeats 1000000 in
theorem WriteByte_frT (B b : Nat) (l : List UInt8) (c : UInt8) (w : World) (h : Bu B b l w) (hl : l.length ≤ 1073741824) (hB : B ≤ w.heap.size) :
    Calls Tryz.prog 105 #[.pointer (some ⟨b, 0, none⟩), bv c] w fun e w' => e = .returned .nilIface ∧ Hid (Bu B b (l ++ [c]) w') ∧ Below B w w' ∧ FrT b w w' := by
  obtain ⟨i0, hi, hz0, hz1, hz2⟩ := info_parts Tryz.infoU8
  have HI := hid hi
  have HZ0 := hid hz0
  have HZ1 := hid hz1
  have HZ2 := hid hz2
  clear hi hz0 hz1 hz2
  go_enter Tryz.func105, Tryz.ntmps105
  go_wp2_with fail
  refine (check_frT B b l w h).mono ?_
  rintro e w1 ⟨rfl, h1, hb1, hf1⟩
  obtain ⟨ao, cap, c1, f1, hbk, hown, hBb⟩ := bu_cells h1
  have HBK := hid hbk
  have HOWN := hid hown
  have hs1 := hb1.size
  obtain ⟨m, hm⟩ : ∃ m, m = (Lib.byteCells l).length := ⟨_, rfl⟩
  have HM := hid hm
  rw [← hm] at c1 hbk
  have hml : m ≤ 1073741824 := by rw [hm, Lib.byteCells_length]; exact hl
  clear hbk hown hm h1 h
  go_wp2_with (first | (at_builtin; refine wpList_append_own_at _ rfl _ _ 87 rfl B 5 i0 (.int .u8 0) 1 1 Tryz.underlying87 HI.out HZ0.out HZ1.out HZ2.out rfl (by decide) (.slice ao m cap) m (Lib.byteCells l) rfl (by rw [HM.out]; exact HOWN.out.alloc _) ⟨w1.heap.size, 0, none⟩ 1 1 [bv c] rfl rfl (new_cells _ #[bv c] _ _ rfl) ?c2 ?c3 ?c4 ?c5 ?_))
  case c2 => simp [Value.oneCell']
  case c3 => unfold maxLen; omega
  case c4 => omega
  case c5 => simp; omega
  intro v' w2 hown2 hg2 _ _
  obtain ⟨a2, cap2, rfl⟩ := own_form hown2
  rw [HM.out] at hown2 hg2
  obtain ⟨hb2, hat, hbel⟩ := bu_put HBK.out HOWN.out hBb (ys := [bv c]) hown2 hg2
  have HFR := hid (fun v => FrT.put (b := b) HOWN.out (Or.inr ⟨_, rfl⟩) hg2 v)
  have d1 := cell_at (o := 1) hb2
  have g1 := free_of (o := 1) hb2
  have HAT := hid hat
  have HBEL := hid (hbel (by omega))
  clear hb2 hat hbel hown2 hg2
  go_wp2
  go_ret
  rw [HM.out]
  refine ⟨rfl, ?_, hb1.trans HBEL.out, hf1.trans (HFR.out _)⟩
  show Bu B b (l ++ [c]) _
  rw [Bu, Lib.byteCells_append]
  exact Or.inr HAT.out


set_option maxRecDepth 100000 in
set_option maxHeartbeats 1000000 in
theorem WriteString_frT (B b : Nat) (l t : List UInt8) (w : World) (h : Bu B b l w) (hl : l.length ≤ 1073741824) (ht : t.length ≤ 1073741824) (hB : B ≤ w.heap.size) :
    Calls Tryz.prog 104 #[.pointer (some ⟨b, 0, none⟩), .string (tx t)] w fun e w' => e = .returned (.tuple #[.int .i64 t.length, .nilIface]) ∧ Hid (Bu B b (l ++ t) w') ∧ Below B w w' ∧ FrT b w w' := by
  obtain ⟨i0, hi, hz0, hz1, hz2⟩ := info_parts Tryz.infoU8
  have HI := hid hi
  have HZ0 := hid hz0
  have HZ1 := hid hz1
  have HZ2 := hid hz2
  clear hi hz0 hz1 hz2
  go_enter Tryz.func104, Tryz.ntmps104
  go_wp2_with fail
  refine (check_frT B b l w h).mono ?_
  rintro e w1 ⟨rfl, h1, hb1, hf1⟩
  obtain ⟨ao, cap, c1, f1, hbk, hown, hBb⟩ := bu_cells h1
  have HBK := hid hbk
  have HOWN := hid hown
  have hs1 := hb1.size
  obtain ⟨m, hm⟩ : ∃ m, m = (Lib.byteCells l).length := ⟨_, rfl⟩
  have HM := hid hm
  rw [← hm] at c1 hbk
  have hml : m ≤ 1073741824 := by rw [hm, Lib.byteCells_length]; exact hl
  have htz : (tx t).size ≤ 1073741824 := by rw [tx_size]; exact ht
  clear hbk hown hm h1 h
  go_wp2_with (first | (at_builtin; refine Lib.wpList_append_own_string _ rfl _ _ 87 9 rfl B 5 i0 Tryz.underlying87 Tryz.underlying9 HI.out HZ0.out HZ1.out HZ2.out (.slice ao m cap) m (Lib.byteCells l) rfl (by rw [HM.out]; exact HOWN.out) (tx t) rfl ?c3 ?c4 ?c5 ?_))
  case c3 => unfold maxLen; omega
  case c4 => omega
  case c5 => omega
  intro v' w2 hown2 hg2 _
  obtain ⟨a2, cap2, rfl⟩ := own_form hown2
  rw [HM.out] at hown2 hg2
  have hys : (Lib.strCells (tx t)).length = (tx t).size := by rw [Lib.strCells_eq, Lib.byteCells_length, list_size]
  obtain ⟨hb2, hat, hbel⟩ := bu_put' HBK.out HOWN.out hBb (ys := Lib.strCells (tx t)) (by rw [hys]; exact hown2) hg2
  have HFR := hid (fun v => FrT.put (b := b) HOWN.out (Or.inl rfl) hg2 v)
  have d1 := cell_at (o := 1) hb2
  have g1 := free_of (o := 1) hb2
  have HAT := hid hat
  have HBEL := hid (hbel (by omega))
  clear hb2 hat hbel hown2 hg2 hys
  go_wp2
  go_ret2
  rw [HM.out]
  refine ⟨rfl, ?_, hb1.trans HBEL.out, hf1.trans (HFR.out _)⟩
  show Bu B b (l ++ t) _
  rw [Bu, Lib.byteCells_append]
  exact Or.inr HAT.out

end Go.Proofs.YtebaopiedlioiaaGreatDoor
namespace Go.Proofs.YtebaopiedlioiaaGreatDoor
open Go.RowKit

/-- A row of texts of one's own, as what is appended. -/
theorem own_srcJ {w : World} {B : Nat} {v : Value} {n : Nat} {xs : List Value} (h : w.ownsRow B 9 1 v n xs) : (v = .slice none 0 0 ∧ n = 0 ∧ xs = []) ∨ ∃ ad c, v = .slice (some ad) n c ∧ xs.length = n * 1 ∧ ∀ j u, xs[j]? = some u → w.cell? (ad.add j) = some u := by
  rcases h.2 with ⟨e, h0⟩ | ⟨g, cap, cur, e, hB, hh, hn, _, _, ht⟩
  · left
    refine ⟨e, h0, ?_⟩
    have := h.1
    rw [h0] at this
    exact List.length_eq_zero_iff.1 (by omega)
  · right
    refine ⟨⟨g, 0, none⟩, cap, e, h.1, fun j u hu => ?_⟩
    rw [show (⟨g, 0, none⟩ : Addr).add j = ⟨g, j, none⟩ by unfold Addr.add; split <;> simp_all]
    rw [cell_at hh, ← Array.getElem?_toList]
    have : (cur.toList.take (n * 1))[j]? = some u := by rw [ht]; exact hu
    rw [List.getElem?_take] at this
    split at this
    · exact this
    · cases this
/-- What listWords has so far. -/
structure LwI (w : World) (k : List UInt8) (ns : List (List UInt8)) (j : Nat) (v : Value) (wr : World) : Prop where
  own : wr.ownsRow w.heap.size 9 1 v (2 * j) (svs (mkS k ns j))
  below : Below w.heap.size w wr
theorem Txs.at_ {w : World} {v : Value} {ns : List (List UInt8)} (h : Txs w v ns) : ∃ ao cap, v = .slice ao ns.length cap ∧ (ns = [] ∨ ∃ g o, ao = some ⟨g, o, none⟩ ∧ g < w.heap.size ∧ ∀ i, i < ns.length → w.cell? ⟨g, o + i, none⟩ = some (.string (tx (ns.getD i [])))) := h

set_option maxRecDepth 20000 in
set_option maxHeartbeats 2000000 in
theorem olistWords_any {w : World} {v : Value} {ns : List (List UInt8)} (h : Txs w v ns) (hn : ns.length ≤ 1000) (k : List UInt8) :
    Calls Tryz.prog 106 #[.string (tx k), v] w fun en w' => ∃ v', en = .returned v' ∧ w'.ownsRow w.heap.size 9 1 v' (2 * ns.length) (svs (mkS k ns ns.length)) ∧ Below w.heap.size w w' := by
  obtain ⟨i0, hi, hz0, hz1, hz2⟩ := info_parts Tryz.infoStrP
  have HI := hid hi
  have HZ0 := hid hz0
  have HZ1 := hid hz1
  have HZ2 := hid hz2
  clear hi hz0 hz1 hz2
  obtain ⟨ao, cap, rfl, hr⟩ := h
  have HR := hid hr
  obtain ⟨n, hnn⟩ : ∃ n, n = ns.length := ⟨_, rfl⟩
  have HN := hid hnn
  rw [← hnn] at hn ⊢
  clear hr hnn
  go_enter Tryz.func106, Tryz.ntmps106
  go_wp2_with fail
  go_loopw [5, 6, 8, 12] (fun u m _ i wr => ∃ (j : Nat) (v : Value), u = v ∧ m = .string (tx (if j = 0 then k else [44])) ∧ i = .int .i64 j ∧ j ≤ n ∧ Hid (LwI w k ns j v wr)) (fun _ _ _ i _ => n - (intOf i).toNat)
  case atStart => exact ⟨0, _, rfl, rfl, rfl, Nat.zero_le _, ⟨World.ownsRow_nil _ _ _ _, Below.refl _ _⟩⟩
  case round =>
    obtain ⟨j, v, rfl, rfl, rfl, hj, HJ⟩ := hrel
    have HO := hid HJ.out.own
    have HB := hid HJ.out.below
    obtain ⟨wo, wc', rfl⟩ := own_formJ HO.out
    have hsz : w.heap.size ≤ wr.heap.size := HB.out.size
    obtain ⟨mk, hmk⟩ : ∃ mk : List UInt8, mk = if j = 0 then k else [44] := ⟨_, rfl⟩
    rw [← hmk]
    by_cases hlt : j < n
    · obtain ⟨g, o, rfl, hg, hc⟩ := HR.out.resolve_left (fun e => by have := HN.out; rw [e] at this; simp at this; omega)
      have c0 := (HB.out.cell (p := ⟨g, o + j, none⟩) (by exact hg)).trans (hc j (by have := HN.out; omega))
      obtain ⟨p, hp⟩ : ∃ p, p = ns.getD j [] := ⟨_, rfl⟩
      rw [← hp] at c0
      have hkI : (j : Int) < (n : Int) := by omega
      have hk0 : (0 : Int) ≤ (j : Int) := by omega
      have HNX := hid (fun (v' : Value) (w5 : World) (ho : w5.ownsRow w.heap.size 9 1 v' (2 * j + 2) (svs (mkS k ns j) ++ [.string (tx mk), .string (tx p)])) => (show w5.ownsRow w.heap.size 9 1 v' (2 * (j + 1)) (svs (mkS k ns (j + 1))) from by
        have e : svs (mkS k ns (j + 1)) = svs (mkS k ns j) ++ [.string (tx mk), .string (tx p)] := by
          rw [hmk, hp]; simp [svs, mkS]
        rw [e, show 2 * (j + 1) = 2 * j + 2 by omega]
        exact ho))
      clear hp hc hmk
      go_wp2_with (first | (at_builtin; refine wpList_append_own_at _ rfl _ _ 47 rfl w.heap.size 9 i0 (.string (tx [])) 1 16 Tryz.underlying47 HI.out HZ0.out HZ1.out HZ2.out rfl (by decide) (.slice wo (2 * j) wc') (2 * j) (svs (mkS k ns j)) rfl (HO.out.alloc _) ⟨wr.heap.size, 0, none⟩ 2 2 [.string (tx mk), .string (tx p)] rfl rfl (new_cells _ #[.string (tx mk), .string (tx p)] _ _ rfl) ?c2 ?c3 ?c4 ?c5 ?_))
      case c2 => simp [Value.oneCell']
      case c3 => unfold maxLen; omega
      case c4 => omega
      case c5 => first | omega | (simp only [World.size_alloc]; omega)
      intro v' w5 hown5 hgrow5 _ _
      obtain ⟨a5, c5, rfl⟩ := own_formJ hown5
      have J5 := hid (HNX.out _ w5 hown5)
      have B5 := hid (show Below w.heap.size w w5 from (HB.out.alloc HB.out.size _).grown hgrow5 (by simp only [World.size_alloc]; omega) (fun q hq => (HO.out.lt q hq).1))
      clear hown5 hgrow5 HNX
      go_wp2
      go_roundw
      case rel => exact ⟨j + 1, _, rfl, by rw [if_neg (by omega)], by go_num, by omega, ⟨J5.out, B5.out⟩⟩
      case measure => simp [intOf]; omega
    · have hkI : ¬ (j : Int) < (n : Int) := by omega
      have hjn : j = n := by omega
      subst hjn
      clear hmk
      go_wp2
      go_ret
      exact ⟨_, rfl, HO.out, HB.out⟩
theorem Bu.belowJ {B b : Nat} {l : List UInt8} {w w' : World} (h : Bu B b l w) (hb : Below w.heap.size w w') : Bu B b l w' := by
  have key : ∀ {p : Value}, Lib.BuilderAt 131 5 B b p (Lib.byteCells l) w → Lib.BuilderAt 131 5 B b p (Lib.byteCells l) w' := by
    rintro p ⟨hB, v, h1, h2, h3⟩
    exact ⟨hB, v, below_block hb h1 (lt_of_block h1), h2.kept (grown_of_below none hb) (by rcases hv : v.ownBlock with _ | k; exact Or.inl rfl; exact Or.inr (by simp)), h3⟩
  exact h.elim (fun x => .inl (key x)) (fun x => .inr (key x))

set_option maxRecDepth 20000 in
set_option maxHeartbeats 1000000 in
/-- A line is said. -/
theorem osay_any {w : World} {B b : Nat} {l : List UInt8} (hb : Bu B b l w) {v : Value} {zs : List (List UInt8)} (h : Txs w v zs) (hn : zs.length ≤ 1000) (h4 : ∀ z ∈ zs, z.length ≤ 64) (hl : l.length ≤ 90000000) (hB : B ≤ w.heap.size) :
    Calls Tryz.prog 68 #[.pointer (some ⟨b, 0, none⟩), v] w fun en w' => en = .returned (.tuple #[]) ∧ Hid (Bu B b ((l ++ sayS zs) ++ [10]) w') ∧ Below B w w' ∧ FrT b w w' := by
  have HSY := hid (Say_anyX v zs w h (by omega) (fun l hl => by have := h4 l hl; omega))
  have hs : (sayS zs).length ≤ 65000 := Nat.le_trans (sayS_short h4) (by omega)
  have HBu := hid hb
  obtain ⟨ao, cap, rfl, -⟩ := h
  obtain ⟨t, ht⟩ : ∃ t, t = sayS zs := ⟨_, rfl⟩
  rw [← ht] at HSY hs ⊢
  clear hb h4 ht
  go_enter Tryz.func68, Tryz.ntmps68
  go_wp2_with fail
  refine HSY.out.mono ?_
  rintro en w4 ⟨rfl, hb4⟩
  have B4 := hid (show Below B w w4 from hb4.mono hB)
  have U4 := hid (HBu.out.belowJ hb4)
  have F4 := hid (show FrT b w w4 from FrT.below hb4)
  clear hb4
  go_wp2_with fail
  refine (WriteString_frT B b l t _ U4.out (by omega) (by omega) (by have := B4.out.size; omega)).mono ?_
  rintro en w5 ⟨rfl, U5, hb5, hf5⟩
  have F5 := hid (F4.out.trans hf5)
  have B5 := hid (B4.out.trans hb5)
  clear hb5 hf5
  go_wp2_with fail
  refine (WriteByte_frT B b (l ++ t) 10 _ U5.out (by rw [List.length_append]; omega) (by have := B5.out.size; omega)).mono ?_
  rintro en w6 ⟨rfl, U6, hb6, hf6⟩
  have F6 := hid (F5.out.trans hf6)
  have B6 := hid (B5.out.trans hb6)
  clear hb6 hf6
  go_wp2
  exact bodyPost_end (v := .tuple #[]) (by simp [results, Tryz.results68, go_sem]) rfl ⟨rfl, U6, B6.out, F6.out⟩
end Go.Proofs.YtebaopiedlioiaaGreatDoor
namespace Go.Proofs.YtebaopiedlioiaaGreatDoor
open Go.RowKit

set_option maxRecDepth 20000 in
set_option maxHeartbeats 2000000 in
theorem odeviceWords_any {w : World} {d : To.Dv} {u v : Value} (hu : Txs w u d.cls) (hv : Txs w v d.prt) (hc : d.cls.length ≤ 1000) (hp : d.prt.length ≤ 1000) :
    Calls Tryz.prog 69 #[.agg #[.string (tx d.name), u, v]] w fun en w' => ∃ v', en = .returned v' ∧ w'.ownsRow w.heap.size 9 1 v' (dvW d).length (svs (dvW d)) ∧ Below w.heap.size w w' := by
  obtain ⟨i0, hi, hz0, hz1, hz2⟩ := info_parts Tryz.infoStrP
  have HI := hid hi
  have HZ0 := hid hz0
  have HZ1 := hid hz1
  have HZ2 := hid hz2
  clear hi hz0 hz1 hz2
  have HLC := hid (fun (W : World) (hb : Below w.heap.size w W) => olistWords_any (hu.below hb) hc To.classT)
  have HLP := hid (fun (W : World) (hb : Below w.heap.size w W) => olistWords_any (hv.below hb) hp To.portT)
  obtain ⟨ua, uc, rfl, -⟩ := hu
  obtain ⟨va, vc, rfl, -⟩ := hv
  obtain ⟨cw, hcw⟩ : ∃ x, x = mkS To.classT d.cls d.cls.length := ⟨_, rfl⟩
  obtain ⟨pw, hpw⟩ : ∃ x, x = mkS To.portT d.prt d.prt.length := ⟨_, rfl⟩
  have hcl : 2 * d.cls.length = cw.length := by rw [hcw, mkS_len]
  have hpl : 2 * d.prt.length = pw.length := by rw [hpw, mkS_len]
  rw [← hcw, hcl] at HLC
  rw [← hpw, hpl] at HLP
  obtain ⟨nm, hnm⟩ : ∃ nm, nm = d.name := ⟨_, rfl⟩
  have HDW := hid (show dvW d = ([To.deviceT, nm] ++ cw) ++ pw by rw [hcw, hpw, hnm]; rfl)
  rw [← hnm]
  obtain ⟨Lc, hLc⟩ : ∃ L, L = d.cls.length := ⟨_, rfl⟩
  obtain ⟨Lp, hLp⟩ : ∃ L, L = d.prt.length := ⟨_, rfl⟩
  rw [← hLc] at HLC hcl hc ⊢
  rw [← hLp] at HLP hpl hp ⊢
  obtain ⟨cn, hcn⟩ : ∃ x, x = cw.length := ⟨_, rfl⟩
  obtain ⟨pn, hpn⟩ : ∃ x, x = pw.length := ⟨_, rfl⟩
  have HCN := hid hcn
  have HPN := hid hpn
  rw [← hcn] at HLC hcl
  rw [← hpn] at HLP hpl
  have hcn1 : cn ≤ 2000 := by omega
  have hpn1 : pn ≤ 2000 := by omega
  clear hcw hpw hnm hLc hLp hcn hpn hcl hpl hc hp
  obtain ⟨W1, hW1⟩ : ∃ W1, W1 = (w.alloc (dvOJ nm (.slice ua Lc uc) (.slice va Lp vc))).alloc (.cells #[.string (tx To.deviceT), .string (tx nm)] 9 (0, 0)) := ⟨_, rfl⟩
  have hb1 : Below w.heap.size w W1 := by rw [hW1]; exact ((Below.refl _ _).alloc (Nat.le_refl _) _).alloc (by simp) _
  have h10 : W1.heap[w.heap.size]? = some (dvOJ nm (.slice ua Lc uc) (.slice va Lp vc)) := by rw [hW1]; exact new_old _ _ (new_0 _ _)
  have O1 : W1.ownsRow w.heap.size 9 1 (.slice (some ⟨w.heap.size + 1, 0, none⟩) 2 2) 2 (svs [To.deviceT, nm]) :=
    ⟨rfl, Or.inr ⟨w.heap.size + 1, 2, #[.string (tx To.deviceT), .string (tx nm)], rfl, by omega, by rw [hW1]; exact new_1 _ _ _, Nat.le_refl _, by decide, rfl, rfl⟩⟩
  have HB1 := hid hb1
  have H10 := hid h10
  have HO1 := hid O1
  clear hb1 h10 O1
  go_enter Tryz.func69, Tryz.ntmps69
  go_wp2_with fail
  first | rw [← hW1] | (change Calls _ _ _ ((w.alloc (dvOJ nm (.slice ua Lc uc) (.slice va Lp vc))).alloc (.cells #[.string (tx To.deviceT), .string (tx nm)] 9 (0, 0))) _; rw [← hW1])
  clear hW1
  refine (HLC.out _ HB1.out).mono ?_
  rintro en w2 ⟨v2, rfl, hown2, hb2⟩
  have HB2 := hid (HB1.out.trans (hb2.mono HB1.out.size))
  have H20 := hid ((hb2.block _ (lt_of_block H10.out)).trans H10.out)
  have HO2 := hid (own_sameJ HO1.out fun k q => hb2.block k (HO1.out.lt k q).2)
  have HS2 := hid (own_srcJ hown2)
  obtain ⟨a2, c2, rfl⟩ := own_formJ hown2
  clear hown2 hb2
  go_wp2_with (first | (at_builtin; refine wpList_append_srcJ _ rfl (.tmp 7) (.tmp 10) 47 rfl w.heap.size 9 i0 (.string (tx [])) 1 16 Tryz.underlying47 HI.out HZ0.out HZ1.out HZ2.out rfl (by decide) (.slice (some ⟨w.heap.size + 1, 0, none⟩) 2 2) 2 (svs [To.deviceT, nm]) rfl HO2.out _ cn (svs cw) rfl HS2.out (svs_oneP _) (by unfold maxLen; omega) (by omega) HB2.out.size ?_))
  intro v3 w3 hown3 hg3
  have HB3 := hid (grew_belowP (Nat.le_refl _) HB2.out HO2.out hg3)
  have H30 := hid ((hg3.block _ (lt_of_block H20.out) (by simp [Value.ownBlock])).trans H20.out)
  have HO3 := hid hown3
  obtain ⟨a3, c3, rfl⟩ := own_formJ hown3
  clear hown3 hg3
  have k0 : w3.cell? ⟨w.heap.size, 2, none⟩ = some (.slice va Lp vc) := (dvOJ_cells H30.out).2.2
  go_wp2_with fail
  refine (HLP.out _ HB3.out).mono ?_
  rintro en w4 ⟨v4, rfl, hown4, hb4⟩
  have HB4 := hid (HB3.out.trans (hb4.mono HB3.out.size))
  have HO4 := hid (own_sameJ HO3.out fun k q => hb4.block k (HO3.out.lt k q).2)
  have HS4 := hid (own_srcJ hown4)
  obtain ⟨a4, c4, rfl⟩ := own_formJ hown4
  clear hown4 hb4 k0
  go_wp2_with (first | (at_builtin; refine wpList_append_srcJ _ rfl (.tmp 12) (.tmp 15) 47 rfl w.heap.size 9 i0 (.string (tx [])) 1 16 Tryz.underlying47 HI.out HZ0.out HZ1.out HZ2.out rfl (by decide) (.slice a3 (2 + cn) c3) (2 + cn) (svs [To.deviceT, nm] ++ svs cw) rfl HO4.out _ pn (svs pw) rfl HS4.out (svs_oneP _) (by unfold maxLen; omega) (by omega) HB4.out.size ?_))
  intro v5 w5 hown5 hg5
  have HB5 := hid (grew_belowP (Nat.le_refl _) HB4.out HO4.out hg5)
  have HO5 := hid (show w5.ownsRow w.heap.size 9 1 v5 (dvW d).length (svs (dvW d)) by
    have e : svs (dvW d) = (svs [To.deviceT, nm] ++ svs cw) ++ svs pw := by rw [HDW.out]; simp [svs]
    have e2 : (dvW d).length = 2 + cn + pn := by
      have h1 := HCN.out
      have h2 := HPN.out
      rw [HDW.out, List.length_append, List.length_append]
      show 2 + cw.length + pw.length = _
      omega
    rw [e, e2]
    exact hown5)
  obtain ⟨a5, c5, rfl⟩ := own_formJ hown5
  clear hown5 hg5
  go_wp2
  go_ret
  exact ⟨_, rfl, HO5.out, HB5.out⟩
end Go.Proofs.YtebaopiedlioiaaGreatDoor
namespace Go.Proofs.YtebaopiedlioiaaGreatDoor

theorem ocE_lt {p q : Int} {m n : List UInt8} : ocE p m q n < 0 ↔ p < q ∨ (p = q ∧ m < n) := by
  unfold ocE ocI
  by_cases h1 : p < q
  · simp [h1]
  · by_cases h2 : q < p
    · simp only [h1, if_false, h2, if_true]
      rw [if_neg (show ¬ (1 : Int) = 0 by decide)]
      constructor
      · intro h; exact absurd h (by decide)
      · rintro (h | ⟨h, _⟩)
        · exact h.elim
        · omega
    · have e : p = q := by omega
      subst e
      simp only [Int.lt_irrefl, if_false, if_true, true_and, false_or]
      unfold ocL
      by_cases h3 : m < n
      · simp [h3]
      · by_cases h4 : n < m
        · simp [h3, h4]
        · simp [h3, h4]
/-- The ends of links. -/
def keysJ (ls : List LkZ) : List (Nat × List UInt8) := ls.flatMap fun x => [(x.1.toNat, x.2.1), (x.2.2.1.toNat, x.2.2.2)]
theorem keysJ_snoc {ls : List LkZ} {k : Nat} {x : LkZ} (h : ls[k]? = some x) : keysJ (ls.take (k + 1)) = (keysJ (ls.take k) ++ [(x.1.toNat, x.2.1)]) ++ [(x.2.2.1.toNat, x.2.2.2)] := by
  unfold keysJ
  rw [List.take_add_one, h, Option.toList, List.flatMap_append]
  simp
theorem keysJ_len (ls : List LkZ) : (keysJ ls).length = 2 * ls.length := by
  induction ls with
  | nil => rfl
  | cons x r ih => rw [keysJ, List.flatMap_cons, List.length_append, show (List.flatMap (fun x : LkZ => [(x.1.toNat, x.2.1), (x.2.2.1.toNat, x.2.2.2)]) r).length = 2 * r.length from ih]; simp; omega
theorem keysJ_mem {ls : List LkZ} {j : Nat} (hp : ∀ (i : Nat) (y : LkZ), i < j → ls[i]? = some y → 0 ≤ y.1 ∧ 0 ≤ y.2.2.1) {d : Int} {p : List UInt8} (hd : 0 ≤ d) : (d.toNat, p) ∈ keysJ (ls.take j) ↔ ∃ (i : Nat) (y : LkZ), i < j ∧ ls[i]? = some y ∧ atB y d p = true := by
  unfold keysJ
  rw [List.mem_flatMap]
  constructor
  · rintro ⟨y, hy, hm⟩
    obtain ⟨i, hi⟩ := List.getElem?_of_mem hy
    rw [List.getElem?_take] at hi
    split at hi
    · rename_i hij
      obtain ⟨h1, h2⟩ := hp i y hij hi
      refine ⟨i, y, hij, hi, atB_iff.2 ?_⟩
      simp only [List.mem_cons, List.not_mem_nil, or_false, Prod.mk.injEq] at hm
      rcases hm with ⟨e1, e2⟩ | ⟨e1, e2⟩
      · exact Or.inl ⟨by omega, e2.symm⟩
      · exact Or.inr ⟨by omega, e2.symm⟩
    · cases hi
  · rintro ⟨i, y, hij, hi, ha⟩
    refine ⟨y, List.mem_of_getElem? (i := i) (by rw [List.getElem?_take, if_pos hij]; exact hi), ?_⟩
    rcases atB_iff.1 ha with ⟨e1, e2⟩ | ⟨e1, e2⟩
    · rw [e1, e2]; simp
    · rw [e1, e2]; simp
theorem hasP_bound {ds : List To.Dv} {a : Int} {p : List UInt8} (h : hasP ds a p = true) : 0 ≤ a ∧ a < ds.length := by
  unfold hasP at h
  split at h
  · rename_i h0
    cases hd : ds[a.toNat]? with
    | none => rw [hd] at h; cases h
    | some d => have := (List.getElem?_eq_some_iff.1 hd).1; omega
  · cases h
theorem befB_iff {x y : LkZ} : befB x y = true ↔ ocE x.1 x.2.1 y.1 y.2.1 < 0 := by
  rw [ocE_lt]
  unfold befB
  split
  · rename_i e
    rw [decide_eq_true_eq]
    constructor
    · intro h; exact Or.inr ⟨e, h⟩
    · rintro (h | h)
      · omega
      · exact h.2
  · rename_i e
    rw [decide_eq_true_eq]
    constructor
    · intro h; exact Or.inl h
    · rintro (h | h)
      · exact h
      · exact absurd h.1 e
/-- A link may stand where it stands, if those ahead of it may: as the program asks it. -/
theorem lkB_iff {ds : List To.Dv} {ls : List LkZ} {j : Nat} {x : LkZ} (hx : ls[j]? = some x) (hpre : ∀ i, i < j → lkB ds ls i = true) :
    lkB ds ls j = true ↔ (j = 0 ∨ ocE (ls.getD (j - 1) lk0).1 (ls.getD (j - 1) lk0).2.1 x.1 x.2.1 < 0) ∧ hasP ds x.1 x.2.1 = true ∧ hasP ds x.2.2.1 x.2.2.2 = true ∧ ocE x.1 x.2.1 x.2.2.1 x.2.2.2 < 0 ∧ (x.1.toNat, x.2.1) ∉ keysJ (ls.take j) ∧ (x.2.2.1.toNat, x.2.2.2) ∉ keysJ (ls.take j) ++ [(x.1.toNat, x.2.1)] := by
  have hp : ∀ (i : Nat) (y : LkZ), i < j → ls[i]? = some y → 0 ≤ y.1 ∧ 0 ≤ y.2.2.1 := fun i y hi hy => by
    have h := hpre i hi
    unfold lkB at h
    rw [getD_at hy] at h
    simp only [Bool.and_eq_true] at h
    exact ⟨(hasP_bound h.2.1.1).1, (hasP_bound h.2.1.2).1⟩
  have hg : ∀ {d : Int} {p : List UInt8}, 0 ≤ d → ((d.toNat, p) ∉ keysJ (ls.take j) ↔ ∀ k, k < j → atB (ls.getD k lk0) d p = false) := fun {d p} hd => by
    rw [keysJ_mem hp hd]
    constructor
    · intro h k hk
      rw [Bool.eq_false_iff]
      intro q
      have hj := (List.getElem?_eq_some_iff.1 hx).1
      obtain ⟨y, hy⟩ : ∃ y, ls[k]? = some y := ⟨_, List.getElem?_eq_getElem (by omega)⟩
      rw [getD_at hy] at q
      exact h ⟨k, y, hk, hy, q⟩
    · rintro h ⟨i, y, hi, hy, q⟩
      have := h i hi
      rw [getD_at hy, q] at this
      cases this
  unfold lkB
  rw [getD_at hx]
  simp only [Bool.and_eq_true]
  constructor
  · rintro ⟨hf, ⟨ha, hb⟩, hG⟩
    obtain ⟨a0, an⟩ := hasP_bound ha
    obtain ⟨b0, bn⟩ := hasP_bound hb
    unfold lkF at hf
    simp only [Bool.and_eq_true, Bool.or_eq_true, Bool.not_eq_true', decide_eq_true_eq, decide_eq_false_iff_not] at hf
    obtain ⟨_, _, h3, h4, h5⟩ := hf
    have hG1 := allN_iff.1 (show allN j _ = true from hG)
    have hlt : ocE x.1 x.2.1 x.2.2.1 x.2.2.2 < 0 := ocE_lt.2 (by
      rcases h4 with q | q
      · left; omega
      · by_cases e : x.1 = x.2.2.1
        · exact Or.inr ⟨e, q⟩
        · left; omega)
    have hk : ∀ k, k < j → atB (ls.getD k lk0) x.1 x.2.1 = false ∧ atB (ls.getD k lk0) x.2.2.1 x.2.2.2 = false := fun k hk => by
      have := hG1 k hk
      simp only [Bool.not_eq_true', Bool.or_eq_false_iff] at this
      exact this
    refine ⟨h5.imp id befB_iff.1, ha, hb, hlt, (hg a0).2 fun k q => (hk k q).1, ?_⟩
    rw [List.mem_append, List.mem_singleton]
    rintro (q | q)
    · exact (hg b0).2 (fun k q => (hk k q).2) q
    · injection q with q1 q2
      rcases ocE_lt.1 hlt with r | ⟨r1, r2⟩
      · omega
      · rw [q2] at r2
        exact List.lt_irrefl _ r2
  · rintro ⟨h1, ha, hb, hlt, k1, k2⟩
    obtain ⟨a0, an⟩ := hasP_bound ha
    obtain ⟨b0, bn⟩ := hasP_bound hb
    rw [List.mem_append, not_or] at k2
    refine ⟨?_, ⟨ha, hb⟩, allN_iff.2 fun k hk => ?_⟩
    · unfold lkF
      simp only [Bool.and_eq_true, Bool.or_eq_true, Bool.not_eq_true', decide_eq_true_eq, decide_eq_false_iff_not]
      refine ⟨a0, bn, ?_, ?_, h1.imp id befB_iff.2⟩
      · rcases ocE_lt.1 hlt with r | r <;> omega
      · rcases ocE_lt.1 hlt with r | r
        · left; omega
        · exact Or.inr r.2
    · rw [(hg a0).1 k1 k hk, (hg b0).1 k2.1 k hk]
      rfl
/-- Devices' part of a topology that may not be. -/
theorem topB_dvs {wd : Int} {ds : List To.Dv} {ls : List LkZ} {k : Nat} (hk : k < ds.length) (h : dvB ds k = false) : topB wd ds ls = false := by
  unfold topB
  rw [allN_false hk h]
  simp
theorem topB_lks {wd : Int} {ds : List To.Dv} {ls : List LkZ} {k : Nat} (hk : k < ls.length) (h : lkB ds ls k = false) : topB wd ds ls = false := by
  unfold topB
  rw [allN_false hk h]
  simp
theorem topB_all {wd : Int} {ds : List To.Dv} {ls : List LkZ} (h0 : 1 ≤ wd ∧ wd ≤ 128) (h1 : 1 ≤ ds.length ∧ ds.length ≤ 256 ∧ ls.length ≤ 4096) (h2 : ∀ k, k < ds.length → dvB ds k = true) (h3 : ∀ k, k < ls.length → lkB ds ls k = true) : topB wd ds ls = true := by
  unfold topB
  rw [decide_eq_true h0, decide_eq_true h1, allN_iff.2 h2, allN_iff.2 h3]
  rfl
end Go.Proofs.YtebaopiedlioiaaGreatDoor
