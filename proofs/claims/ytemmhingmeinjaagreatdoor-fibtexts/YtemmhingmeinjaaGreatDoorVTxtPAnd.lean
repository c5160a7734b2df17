/-
  A table's text, and a text loaded: the document's.
-/
import Derived.Test.YtemmhingmeinjaaGreatDoorVMadeAnd
import Derived.Test.YtemmhingmeinjaaGreatDoorVDocFAnd
import Derived.Test.YtemmhingmeinjaaGreatDoorUCopyAnd
import Derived.Deep.RegionHeld2
import Derived.Test.YtemmhingmeinjaaGreatDoorVDocLAnd
namespace Go.Proofs.YtemmhingmeinjaaGreatDoor
open Go.RowKit
open Wo (Wd)

def prsX (s : List UInt8) (W : Int) : List Ru.Rl × Ru.Ft := if 1048576 < s.length then ([], (0, 0, 2)) else prsA s W
theorem prsX_may {s : List UInt8} {W : Int} : (prsX s W).1.length ≤ 4096 ∧ (∀ y ∈ (prsX s W).1, Ru.OkRl W.toNat y) ∧ (prsX s W).1.Pairwise (fun a b => Ru.same a b = false) := by
  unfold prsX
  split
  · exact ⟨by simp, (fun y hy => by cases hy), List.Pairwise.nil⟩
  · refine ⟨(prsA_few s W).1, ?_⟩
    unfold prsA
    cases h : Ru.prs s W with
    | error f => exact ⟨(fun y hy => by cases hy), List.Pairwise.nil⟩
    | ok rs => exact (prs_may h).2
def ldT (f : Ru.Ft) : Ru.Ft := if f.2.2 = 0 then (0, 0, 0) else f
theorem ldT_ne {a b c : Nat} (h : c ≠ 0) : ldT (a, b, c) = (a, b, c) := if_neg h
def LdR (s : List UInt8) (W : Int) (L L2 : List Raw) : Prop := ((prsX s W).2.2.2 ≠ 0 ∧ L2 = L) ∨ ((prsX s W).2.2.2 = 0 ∧ Srt L2 ∧ L2.Perm ((prsX s W).1.map rawR))
theorem LdR.one {s : List UInt8} {W : Int} {L A B : List Raw} (h1 : LdR s W L A) (h2 : LdR s W L B) : A = B := by
  rcases h1 with ⟨a, rfl⟩ | ⟨a, s1, p1⟩ <;> rcases h2 with ⟨b, rfl⟩ | ⟨b, s2, p2⟩
  · rfl
  · exact absurd b a
  · exact absurd a b
  · exact one_way (R := fun a b => cmpR a b < 0) (fun a b h k => cmpR_asy h k) s1 s2 (p1.trans p2.symm)
theorem LdR.back {W : Int} {L L2 : List Raw} (hg : GoodT W L) (hn : L.length ≤ 100) (h : LdR (Ru.printT (L.map Raw.rl)) W [] L2) : (prsX (Ru.printT (L.map Raw.rl)) W).2.2.2 = 0 ∧ L2 = L := by
  obtain ⟨h1, h2, h3⟩ := good_rl hg
  have hl := printT_len2 (width := W.toNat) (by have := hg.wide; omega) _ h1
  rw [List.length_map] at hl
  have e : prsX (Ru.printT (L.map Raw.rl)) W = (L.map Raw.rl, (0, 0, 0)) := by
    unfold prsX
    rw [if_neg (by omega)]
    unfold prsA
    rw [Ru.prs_back hg.wide h1 h2 (by rw [List.length_map]; exact hg.few)]
  refine ⟨by rw [e], ?_⟩
  refine h.one (Or.inr ⟨by rw [e], hg.srt, ?_⟩) ▸ rfl
  rw [e]
  show L.Perm ((L.map Raw.rl).map rawR)
  rw [h3]

theorem Ported.txt_len {w : World} {B : Nat} {v : Value} {zs : List (List UInt8)} (h : Ported w B v zs) : ∃ ao n c, v = .slice ao n c := by
  obtain ⟨ao, c, e, _⟩ := h
  exact ⟨ao, _, c, e⟩
def rawQ (q : Ru.Rl × Value) : Raw × Value := (rawR q.1, q.2)
theorem rawQ_fst (qs : List (Ru.Rl × Value)) : (qs.map rawQ).map Prod.fst = (qs.map Prod.fst).map rawR := by simp [rawQ, Function.comp_def]
theorem rs_raw {w : World} {B : Nat} {v : Value} {qs : List (Ru.Rl × Value)} (h : RsAt w B v qs) {W : Nat} (hok : ∀ q ∈ qs, Ru.OkRl W q.1) (h0 : 0 < qs.length) : ∃ g cap, v = .slice (some ⟨g, 0, none⟩) qs.length cap ∧ RawView w g 0 (qs.map rawQ) := by
  obtain ⟨g, cap, rfl, hg, hc⟩ := h.some h0
  refine ⟨g, cap, rfl, hg, fun i q hq => ?_, fun q hq => ?_⟩
  · rw [List.getElem?_map, Option.map_eq_some_iff] at hq
    obtain ⟨q0, hq0, rfl⟩ := hq
    rw [Nat.zero_add]
    exact hc i q0 hq0
  · obtain ⟨q0, hq0, rfl⟩ := List.mem_map.1 hq
    refine ⟨(h.ports q0 hq0).txs, fun p hp => ?_⟩
    have hx := hok q0 hq0
    rcases hx.act with ⟨_, e⟩ | ⟨_, e⟩
    · have hp' : p ∈ q0.1.ports := hp
      rw [e] at hp'; cases hp'
    · have := nameB_short (e.2.2.1 p hp)
      unfold maxLen; omega

structure OrdL (w : World) (W : Int) (rs : List Ru.Rl) (v : Value) (w' : World) (ps : List (Raw × Value)) : Prop where
  low : Below w.heap.size w w'
  own : OwnR w' w.heap.size v ps
  prt : ∀ q ∈ ps, Ported w' w.heap.size q.2 q.1.ports
  good : GoodT W (ps.map Prod.fst)
  perm : (ps.map Prod.fst).Perm (rs.map rawR)
theorem Order_rs {w : World} {v : Value} {W : Int} {qs : List (Ru.Rl × Value)} {rs : List Ru.Rl} (hw : 1 ≤ W ∧ W ≤ 128) (hR : RsAt w 0 v qs) (hq : qs.map Prod.fst = rs) (hok : ∀ y ∈ rs, Ru.OkRl W.toNat y) (hk : rs.Pairwise (fun a b => Ru.same a b = false)) (hn : rs.length ≤ 4096) :
    Calls Tryz.prog 22 #[v] w fun e w' => ∃ ao n c ps, e = .returned (.slice ao n c) ∧ Hid (OrdL w W rs (.slice ao n c) w' ps) := by
  have hl : qs.length = rs.length := by rw [← hq, List.length_map]
  by_cases h0 : 0 < qs.length
  · obtain ⟨g, cap, rfl, hv⟩ := rs_raw hR (fun q hm => hok q.1 (by rw [← hq]; exact List.mem_map_of_mem hm)) h0
    have he := rawQ_fst qs
    rw [hq] at he
    have hlen : (qs.map rawQ).length = qs.length := List.length_map ..
    refine (Order_some (cap := cap) hv hlen (by omega) (fun q hm => ?_)).mono ?_
    · have hm' : q.1 ∈ (qs.map rawQ).map Prod.fst := List.mem_map_of_mem hm
      rw [he] at hm'
      obtain ⟨x, hx, e⟩ := List.mem_map.1 hm'
      rw [← e]
      exact (errR_small (errR_rawR hw (hok x hx))).1
    · rintro e w' ⟨ob, ps, L, hP⟩
      have hP := hP.out
      have hL := hP.sorted
      rw [← hlen] at hL
      have hg := good_sorted hw he hok hk hn hL
      have hpl : ps.length = qs.length := by
        have := congrArg List.length hP.same
        rw [List.length_map, List.length_map] at this
        have := hL.len
        omega
      refine ⟨_, _, _, ps, hP.told, hP.low, ?_, hP.own, by rw [hP.same]; exact hg, by rw [hP.same, ← he]; exact raw_perm hL⟩
      refine ⟨⟨flatV_len ps, Or.inr ?_⟩, fun q hm => (hP.own q hm).txt_len⟩
      obtain ⟨cs, hb, hz⟩ := hP.row
      refine ⟨ob, qs.length, cs, by rw [hpl], hP.new, hb, by omega, by unfold maxLen; omega, hz, ?_⟩
      have hfl := flatV_len ps
      have hcz : cs.toList.length = cs.size := Array.length_toList
      refine List.ext_getElem? fun i => ?_
      by_cases hi : i < ps.length * 4
      · rw [List.getElem?_take, if_pos hi]
        obtain ⟨q, hqq⟩ : ∃ q, ps[i / 4]? = some q := ⟨_, List.getElem?_eq_getElem (show i / 4 < ps.length by omega)⟩
        obtain ⟨f0, f1, f2, f3⟩ := flatV_get hqq
        obtain ⟨c0, c1, c2, c3⟩ := hP.view.cell _ q hqq
        rw [Nat.zero_add, cell_at hb] at c0 c1 c2 c3
        rw [Array.getElem?_toList]
        rcases (by omega : i = i / 4 * 4 ∨ i = i / 4 * 4 + 1 ∨ i = i / 4 * 4 + 2 ∨ i = i / 4 * 4 + 3) with e | e | e | e
        · rw [e, f0]; exact c0
        · rw [e, f1]; exact c1
        · rw [e, f2]; exact c2
        · rw [e, f3]; exact c3
      · rw [List.getElem?_eq_none (by rw [List.length_take]; omega), List.getElem?_eq_none (by omega)]
  · have hr0 : rs = [] := List.length_eq_zero_iff.1 (by omega)
    obtain ⟨ao, cap, rfl⟩ := hR.form
    rw [show qs.length = 0 by omega]
    refine Order_noneB.mono ?_
    rintro e w' ⟨ob, rfl, hb, h2⟩
    refine ⟨_, _, _, [], rfl, hb, ⟨⟨rfl, Or.inr ⟨ob, 0, madeR 0, rfl, h2.out.2, h2.out.1, Nat.le_refl _, by decide, madeR_size 0, by simp [flatV]⟩⟩, (fun q hq => by cases hq)⟩, (fun q hq => by cases hq), GoodT.nil hw, by rw [hr0]; exact List.Perm.refl _⟩

theorem print_ok {W : Int} {ps : List (Raw × Value)} (hg : GoodT W (ps.map Prod.fst)) : PrintOk W ps := by
  refine ⟨fun q hq => errR_ok.1 (hg.ok q.1 (List.mem_map_of_mem hq)), hg.wide, ?_⟩
  have := (good_rl hg).2.1
  rw [List.map_map] at this
  exact this
theorem Print_good {w : World} {v : Value} {W : Int} {ps : List (Raw × Value)} (h : RowV w v ps.length ps) (hg : GoodT W (ps.map Prod.fst)) (hT : PowTab w) :
    Calls Tryz.prog 19 #[v, .int .i64 W] w fun en w' => en = .returned (.tuple #[.string (tx (Ru.printT ((ps.map Prod.fst).map Raw.rl))), .int .i64 0, .int .i64 0]) ∧ Below w.heap.size w w' := by
  obtain ⟨_, ao, c, rfl, k⟩ := h
  have hf := hg.few
  rw [List.length_map] at hf
  refine (Print_any ⟨k⟩ c W hf hT).mono ?_
  rintro en w' ⟨hb, ⟨i, e, _, hno, _⟩ | ⟨_, _, _, he⟩⟩
  · exact absurd (print_ok hg) hno
  · rw [List.map_map]
    exact ⟨he, hb⟩

set_option maxRecDepth 4000 in
set_option maxHeartbeats 1000000 in
theorem Text_any {w : World} {Bp tb : Nat} {W : Int} {L : List Raw} (hF : FTab w Bp tb W L) (hT : PowTab w) :
    Calls Tryz.prog 6 #[.pointer (some ⟨tb, 0, none⟩)] w fun e w' => e = .returned (.tuple #[.string (tx (Ru.printT (L.map Raw.rl))), .int .i64 0]) ∧ Below w.heap.size w w' := by
  obtain ⟨v, ps, ht, he⟩ := hF.ex
  have hC := fun (X : World) (hX : Below w.heap.size w X) => Print_good (w := X) ((ht.list.rowV (fun q hq => ⟨(ht.ports q hq).txs, good_each ht.good rfl q hq⟩)).on hX) ht.good (hT.below hX)
  rw [he] at hC
  have HC := hid hC
  obtain ⟨lo, lc, hv, _⟩ := ht.list.form
  subst hv
  have t0 : w.cell? ⟨tb, 0, none⟩ = some (.int .i64 W) := by rw [cell_at ht.blk]; rfl
  have t1 : w.cell? ⟨tb, 1, none⟩ = some (.slice lo ps.length lc) := by rw [cell_at ht.blk]; rfl
  have HMD := hid (made_yes ht.blk)
  clear ht hF he hC hT
  go_enter Tryz.func6, Tryz.ntmps6
  go_wp2_with fail
  refine HMD.out.mono ?_
  rintro en w1 ⟨rfl, hw1⟩
  subst hw1
  go_wp2_with fail
  go_region_held2 (fun W' => W'.cell? ⟨tb, 0, none⟩ = some (.int .i64 W) ∧ W'.cell? ⟨tb, 1, none⟩ = some (.slice lo ps.length lc)) (first | exact ⟨t0, t1⟩ | exact hS2) (first | (go_at_call 19; refine (HC.out _ ((Below.refl _ _).drew)).mono ?_; rintro en w2 ⟨rfl, hb2⟩; have H2 := hid (undrew hb2); have hS2 := And.intro ((H2.out.cell (block_old t0)).trans t0) ((H2.out.cell (block_old t1)).trans t1); clear hb2))
  go_wp2
  refine bodyPost_ret (v := .tuple #[.string (tx (Ru.printT (L.map Raw.rl))), .int .i64 0]) (by simp [results, Tryz.results6, go_sem]) rfl ⟨rfl, H2.out⟩

def ParX (w : World) (s : List UInt8) (W : Int) (en : Ending) (w' : World) : Prop :=
  Below w.heap.size w w' ∧ ∃ v ps, ps.map Prod.fst = (prsX s W).1 ∧ en = .returned (.tuple #[v, .int .i64 (prsX s W).2.1, .int .i64 (prsX s W).2.2.1, .int .i64 (prsX s W).2.2.2]) ∧ RsAt w' 0 v ps
set_option maxRecDepth 4000 in
set_option maxHeartbeats 1000000 in
theorem Lines_longL {s : List UInt8} {w : World} (hs : 1048576 < s.length) : Calls Tryz.prog 38 #[.string (tx s)] w fun e w' => e = .returned (.tuple #[.slice none 0 0, .int .i64 0, .int .i64 0, .int .i64 2]) ∧ w' = w := by
  have hI : (1048576 : Int) < (s.length : Int) := by omega
  go_enter Tryz.func38, Tryz.ntmps38
  go_wp2
  refine bodyPost_ret (v := .tuple #[.slice none 0 0, .int .i64 0, .int .i64 0, .int .i64 2]) (by simp [results, Tryz.results38, go_sem]) rfl ⟨rfl, rfl⟩
set_option maxRecDepth 4000 in
set_option maxHeartbeats 1000000 in
theorem Parse_all {s : List UInt8} {W : Int} {w : World} (hw : 1 ≤ W ∧ W ≤ 128) : Calls Tryz.prog 21 #[.string (tx s), .int .i64 W] w fun en w' => ParX w s W en w' := by
  by_cases hs : 1048576 < s.length
  · have HW := hid (isWidth_any W)
    rw [decide_eq_true hw] at HW
    have HN := hid (Lines_longL (w := w) hs)
    have HX := hid (show prsX s W = ([], (0, 0, 2)) by unfold prsX; rw [if_pos hs])
    clear hs
    go_enter Tryz.func21, Tryz.ntmps21
    go_wp2_with fail
    refine (HW.out _).mono ?_
    rintro en w0 ⟨rfl, rfl⟩
    go_wp2_with fail
    refine HN.out.mono ?_
    rintro en w1 ⟨rfl, rfl⟩
    go_wp2
    refine bodyPost_ret (v := .tuple #[.slice none 0 0, .int .i64 0, .int .i64 0, .int .i64 2]) (by simp [results, Tryz.results21, go_sem]) rfl ?_
    refine ⟨Below.refl _ _, .slice none 0 0, [], by rw [HX.out]; rfl, by rw [HX.out]; rfl, RsAt.nil _ _⟩
  · have e : prsX s W = prsA s W := by unfold prsX; rw [if_neg hs]
    unfold ParX
    rw [e]
    exact (Parse_any s W w (by omega)).mono fun en w' h => h.one

def LoadPost (w : World) (Bp tb : Nat) (W : Int) (L : List Raw) (s : List UInt8) (e : Ending) (w' : World) : Prop :=
  w.grownBy w' (some tb) ∧ e = .returned (.tuple #[.int .i64 (ldT (prsX s W).2).1, .int .i64 (ldT (prsX s W).2).2.1, .int .i64 (ldT (prsX s W).2).2.2]) ∧ ∃ L2, LdR s W L L2 ∧ FTab w' Bp tb W L2
theorem FTab.loaded {w X w' : World} {Bp tb : Nat} {W : Int} {L : List Raw} {v : Value} {rs : List Ru.Rl} {ps : List (Raw × Value)} (h : FTab w Bp tb W L) (hb : Below w.heap.size w X) (ho : OrdL X W rs v w' ps) : w.grownBy (w'.setCell ⟨tb, 1, none⟩ v) (some tb) ∧ FTab (w'.setCell ⟨tb, 1, none⟩ v) Bp tb W (ps.map Prod.fst) := by
  obtain ⟨v0, ps0, ht, _⟩ := h.ex
  have hlt := h.lt
  have hB := below_2 hb ho.low
  have hblk := below_block hB ht.blk hlt
  have hg : w'.grownBy (w'.setCell ⟨tb, 1, none⟩ v) (some tb) := grown_cell _ _ _ _
  have hbase := h.base
  have hXs : Bp ≤ X.heap.size := by have := hb.size; omega
  refine ⟨grown_two (grown_of_below _ hB) hg, h.base, v, ps, ⟨?_, ?_, fun q hq => ?_, ho.good⟩, rfl⟩
  · rw [block_set (o := 1) _ hblk]; rfl
  · have k := ho.own.grew hg hblk (by decide)
    exact ⟨own_mono k.own hXs, k.vals⟩
  · exact ((ho.prt q hq).grewB hg hblk (by decide)).mono hXs

set_option maxRecDepth 20000 in
set_option maxHeartbeats 2000000 in
theorem Load_any {w : World} {Bp tb : Nat} {W : Int} {L : List Raw} {s : List UInt8} (hF : FTab w Bp tb W L) :
    Calls Tryz.prog 9 #[.pointer (some ⟨tb, 0, none⟩), .string (tx s)] w fun e w' => LoadPost w Bp tb W L s e w' := by
  have HF := hid hF
  obtain ⟨v, ps, ht, he⟩ := hF.ex
  obtain ⟨m1, m2, m3⟩ := prsX_may (s := s) (W := W)
  have hw := hF.good.wide
  have HP := hid (Parse_all (s := s) (w := w) hw)
  have HOR := hid (fun (X : World) (v : Value) (qs : List (Ru.Rl × Value)) (hR : RsAt X 0 v qs) (hq : qs.map Prod.fst = (prsX s W).1) => Order_rs hw hR hq m2 m3 m1)
  have t0 : w.cell? ⟨tb, 0, none⟩ = some (.int .i64 W) := by rw [cell_at ht.blk]; rfl
  have HT := hid ht
  have HMD := hid (made_yes ht.blk)
  have HLE := hid (fun L2 => show LdR s W L L2 ↔ (((prsX s W).2.2.2 ≠ 0 ∧ L2 = L) ∨ ((prsX s W).2.2.2 = 0 ∧ Srt L2 ∧ L2.Perm ((prsX s W).1.map rawR))) from Iff.rfl)
  unfold ParX at HP
  unfold LoadPost
  obtain ⟨x, hx⟩ : ∃ x, x = prsX s W := ⟨_, rfl⟩
  rw [← hx] at HP HOR HLE ⊢
  obtain ⟨rs, a, b, c⟩ := x
  simp only at HP HOR HLE ⊢
  clear ht hF he hw m1 m2 m3 hx
  go_enter Tryz.func9, Tryz.ntmps9
  go_wp2_with fail
  refine HMD.out.mono ?_
  rintro en w1 ⟨rfl, hw1⟩
  have hw1' := hw1.symm
  clear hw1
  subst hw1'
  go_wp2_with fail
  refine HP.out.mono ?_
  rintro en w2 ⟨hb2, v2, qs, hq, rfl, hR⟩
  obtain ⟨vo, vc, rfl⟩ := hR.form
  have B2 := hid hb2
  have HO := hid (HOR.out _ _ qs hR hq)
  clear hq hR HOR
  by_cases hc : c = 0
  · subst hc
    clear hb2
    go_wp2_with fail
    refine HO.out.mono ?_
    rintro en w3 ⟨ao3, n3, c3, ps3, rfl, h3⟩
    have hT3 := below_block (below_2 B2.out h3.out.low) HT.out.blk (lt_of_block HT.out.blk)
    have s1 : w3.cell? ⟨tb, 1, none⟩ = some v := by rw [cell_at hT3]; rfl
    have f1 : w3.frozen? ⟨tb, 1, none⟩ = false := free_of hT3
    have HFIN := hid (HF.out.loaded B2.out h3.out)
    have HH := hid (And.intro h3.out.good h3.out.perm)
    clear h3 hT3
    go_wp2
    refine bodyPost_ret (v := .tuple #[.int .i64 0, .int .i64 0, .int .i64 0]) (by simp [results, Tryz.results9, go_sem]) rfl ?_
    exact ⟨HFIN.out.1, rfl, ps3.map Prod.fst, (HLE.out _).2 (Or.inr ⟨by simp, HH.out.1.srt, HH.out.2⟩), HFIN.out.2⟩
  · have hcI : ¬ ((c : Int) = 0) := by omega
    clear hb2
    go_wp2
    refine bodyPost_ret (v := .tuple #[.int .i64 a, .int .i64 b, .int .i64 c]) (by simp [results, Tryz.results9, go_sem]) rfl ?_
    exact ⟨grown_of_below _ B2.out, by rw [ldT_ne hc], L, (HLE.out _).2 (Or.inl ⟨hc, rfl⟩), HF.out.on B2.out⟩
end Go.Proofs.YtemmhingmeinjaaGreatDoor
namespace Go.Proofs.YtemmhingmeinjaaGreatDoor
open Go.RowKit

theorem eqlR_none (w : World) (a : Addr) : (binOp .eql 24 (.pointer (some a)) (.pointer none)).run Tryz.prog w = .ok (.bool false) w := by
  have h : ∀ d : Nat, (Op.equalIn (d + 1) 24 (.pointer (some a)) (.pointer none)).run Tryz.prog w = .ok false w := fun d => by
    simp [Op.equalIn, run_underlying Tryz.underlying24, sizeOf, typeInfo]
  simp only [binOp]
  simp [Op.equal, Op.maxDepth, h 9999]
theorem eqlR_two (w : World) : (binOp .eql 24 (.pointer none) (.pointer none)).run Tryz.prog w = .ok (.bool true) w := by
  have h : ∀ d : Nat, (Op.equalIn (d + 1) 24 (.pointer none) (.pointer none)).run Tryz.prog w = .ok true w := fun d => by
    simp [Op.equalIn, run_underlying Tryz.underlying24, sizeOf, typeInfo]
  simp only [binOp]
  simp [Op.equal, Op.maxDepth, h 9999]
theorem madeN_good {W : Int} (h : 1 ≤ W ∧ W ≤ 128) (cs : List (Int × Raw)) : GoodT W (madeN W cs) := by
  have : ∀ (cs : List (Int × Raw)) (L : List Raw), GoodT W L → GoodT W (cs.foldl (stN W) L) := by
    intro cs
    induction cs with
    | nil => exact fun L h => h
    | cons c cs ih =>
      intro L h
      refine ih _ ?_
      unfold stN
      split
      · rename_i q; exact h.step q
      · exact h
  exact this cs [] (GoodT.nil h)
theorem DTab.row {w : World} {Q rb : Nat} {W : Int} {L : List Raw} (h : DTab w Q rb W L) : ∃ lo lc, w.cell? ⟨rb, 1, none⟩ = some (.slice lo L.length lc) ∧ ∃ qs, qs.map Prod.fst = L ∧ RowV w (.slice lo L.length lc) L.length qs ∧ DocL w 0 Q (.slice lo L.length lc) qs := by
  obtain ⟨v, ps, hB, hd, e⟩ := h.ex
  obtain ⟨lo, lc, rfl, _⟩ := hd.own.form
  have hl : ps.length = L.length := by rw [← e, List.length_map]
  have hr := hd.rowV
  rw [hl] at hr hB hd
  exact ⟨lo, lc, by rw [cell_at hB]; rfl, ps, e, hr, hd⟩

theorem Both.two {w0 w : World} {tb rb : Nat} {W : Int} {L : List Raw} (h : Both w0 w tb rb W L) : ∃ lo nl lc, nl = L.length ∧ w.cell? ⟨rb, 1, none⟩ = some (.slice lo nl lc) ∧ ∀ X, Below w.heap.size w X → Calls Tryz.prog 11 #[.pointer (some ⟨tb, 0, none⟩)] X fun e w' => ∃ a n c, e = .returned (.slice a n c) ∧ Below X.heap.size X w' ∧ w'.cell? ⟨rb, 1, none⟩ = some (.slice lo nl lc) ∧ Calls Tryz.prog 10 #[.slice a n c, .slice lo nl lc] w' fun e w'' => e = .returned (.bool true) ∧ Below w'.heap.size w' w'' := by
  obtain ⟨lo, lc, hc, qs, e, hr, _⟩ := h.doc.row
  refine ⟨lo, L.length, lc, rfl, hc, fun X hX => (Rules_any (h.fib.on hX)).mono ?_⟩
  rintro en w' ⟨v, qs2, rfl, ⟨a, n, c, rfl⟩, h2, e2, _, hb⟩
  have hb2 := below_2 hX hb
  exact ⟨a, n, c, rfl, hb, (hb2.cell (block_old hc)).trans hc, same_rows h2 (hr.on hb2) h.fib.good e2 e⟩

end Go.Proofs.YtemmhingmeinjaaGreatDoor
namespace Go.Proofs.YtemmhingmeinjaaGreatDoor
open Go.RowKit
open Wo (Wd)

theorem conv_nil (w : World) : (convert 88 9 (.slice none 0 0)).run Tryz.prog w = .ok (.string (tx [])) w := by kernel_rfl
theorem bytes_conv {w : World} {B : Nat} {v : Value} {l : List UInt8} (h : w.ownsRow B 5 1 v l.length (Lib.byteCells l)) : (convert 88 9 v).run Tryz.prog w = .ok (.string (tx l)) w := by
  rcases h.2 with ⟨rfl, h0⟩ | ⟨g, cap, cur, rfl, _⟩
  · have e : l = [] := List.length_eq_zero_iff.1 h0
    subst e
    exact conv_nil w
  · have hcv := run_convert_bytes_arg (P := Tryz.prog) w 88 5 Tryz.underlying88 Tryz.underlying5 g 0 l.length cap (l.map fun c => (c.toNat : Int)) (by rw [List.length_map]) (fun i hi => by
      rw [Nat.zero_add, h.cellAt i (by omega), List.getD_eq_getElem?_getD, List.getElem?_map, List.getElem?_eq_getElem hi]
      unfold Lib.byteCells
      rw [List.getElem?_map, List.getElem?_eq_getElem hi]
      rfl) 9 Tryz.underlying9
    have hst : strOfNums (l.map fun c => (c.toNat : Int)) = tx l := by
      unfold strOfNums; exact congrArg ByteArray.mk (by simp [Function.comp_def])
    rw [hst] at hcv
    exact hcv

theorem not_known {rs : List Ru.Rl} {j : Nat} {x : Ru.Rl} (hk : rs.Pairwise (fun a b => Ru.same a b = false)) (hx : rs[j]? = some x) : (x.prio, x.mat) ∉ (rs.take j).map keyOf := fun hin => same_not hx hin hk

theorem known_row {w W' : World} {g cap j : Nat} {qs : List (Ru.Rl × Value)} {x : Ru.Rl} {u : Value} (h : RViewO w g 0 qs) (hb : Below w.heap.size w W') (hk : (qs.map Prod.fst).Pairwise (fun a b => Ru.same a b = false)) (hx : qs[j]? = some (x, u)) (hn : qs.length ≤ 4096) (ao : Option Addr) (an ac : Nat) :
    Calls Tryz.prog 36 #[.slice (some ⟨g, 0, none⟩) j cap, .agg #[.int .i64 x.prio, .string (tx x.mat), .int .i64 x.kind, .slice ao an ac]] W' fun en w'' => en = .returned (.bool false) ∧ Below W'.heap.size W' w'' := by
  by_cases h0 : j = 0
  · subst h0
    exact known_none _ cap _ _ _ ao an ac W'
  · have hj := (List.getElem?_eq_some_iff.1 hx).1
    have hl : (qs.take j).length = j := by rw [List.length_take]; omega
    have hx' : (qs.map Prod.fst)[j]? = some x := by rw [List.getElem?_map, hx]; rfl
    have hno := not_known hk hx'
    have e : ((qs.map Prod.fst).take j).map keyOf = (qs.take j).map keyOfR := by rw [← List.map_take, List.map_map]; rfl
    rw [e] at hno
    have := known_some (w := W') (g := g) (ps := qs.take j) cap (Nat.lt_of_lt_of_le h.old hb.size) (fun i q hq => by
      rw [List.getElem?_take] at hq
      split at hq
      · obtain ⟨c0, c1, _, _⟩ := h.cell i q hq
        rw [Nat.zero_add] at c0 c1
        exact ⟨(hb.cell (by exact h.old)).trans c0, (hb.cell (by exact h.old)).trans c1⟩
      · cases hq) (by omega) x.prio x.mat x.kind ao an ac
    rw [hl, decide_eq_false hno] at this
    exact this

set_option maxRecDepth 20000 in
set_option maxHeartbeats 4000000 in
theorem RPrint_some {w : World} {g cap n : Nat} {W : Int} {qs : List (Ru.Rl × Value)} (h : RViewO w g 0 qs) (hn : qs.length = n) (h60 : n ≤ 4096) (hw : 1 ≤ W ∧ W ≤ 128) (hok : ∀ q ∈ qs, Ru.OkRl W.toNat q.1) (hk : (qs.map Prod.fst).Pairwise (fun a b => Ru.same a b = false)) (hc : n ≤ cap) (hT : PowTab w) :
    Calls Tryz.prog 20 #[.slice (some ⟨g, 0, none⟩) n cap, .int .i64 W] w fun en w' => en = .returned (.tuple #[.string (tx (Ru.printT (qs.map Prod.fst))), .int .i64 0, .int .i64 0]) ∧ Below w.heap.size w w' := by
  obtain ⟨i0, hi, hz0, hz1, hz2⟩ := info_parts Tryz.infoU8
  have HI := hid hi
  have HZ0 := hid hz0
  have HZ1 := hid hz1
  have HZ2 := hid hz2
  clear hi hz0 hz1 hz2
  have H := hid h
  have HN := hid hn
  have HOK := hid hok
  have HK := hid hk
  have HT := hid hT
  have hg := h.old
  have hw1 : ¬ (W < 1) := by omega
  have hw2 : ¬ ((128 : Int) < W) := by omega
  have hwn : W.toNat ≤ 128 := by omega
  have h4096 : ¬ ((4096 : Int) < (n : Int)) := by omega
  have HWW := hid hw
  clear h hn hok hk hT hw
  go_enter Tryz.func20, Tryz.ntmps20
  go_wp2_with fail
  go_loopw [7, 8] (fun u i wr => ∃ j : Nat, j ≤ n ∧ i = .int .i64 j ∧ Hid (wr.ownsRow w.heap.size 5 1 u (Ru.printT ((qs.map Prod.fst).take j)).length (Lib.byteCells (Ru.printT ((qs.map Prod.fst).take j)))) ∧ Hid (Below w.heap.size w wr)) (fun _ i _ => n - (intOf i).toNat)
  case atStart => exact ⟨0, Nat.zero_le _, rfl, World.ownsRow_nil _ _ _ _, Below.refl _ _⟩
  case round =>
    obtain ⟨j, hj, rfl, HO, HB⟩ := hrel
    obtain ⟨T, hTT⟩ : ∃ T, T = Ru.printT ((qs.map Prod.fst).take j) := ⟨_, rfl⟩
    have hpt := printT_len ((qs.map Prod.fst).take j) (fun y hy => by
      obtain ⟨q, hq, rfl⟩ := List.mem_map.1 (List.mem_of_mem_take hy)
      exact HOK.out q hq)
    have hpt2 : ((qs.map Prod.fst).take j).length ≤ 4096 := by rw [List.length_take]; omega
    rw [← hTT] at HO hpt
    have HTT := hid hTT
    have hTl : T.length ≤ 90000000 := by omega
    clear hpt hpt2 hTT
    obtain ⟨tl, htl⟩ : ∃ tl, tl = T.length := ⟨_, rfl⟩
    rw [← htl] at HO hTl
    have HTL := hid htl
    obtain ⟨bo, bc, rfl⟩ := own_form HO.out
    clear htl
    by_cases hlt : j < n
    · obtain ⟨q, hq⟩ : ∃ q, qs[j]? = some q := ⟨qs[j]'(by rw [HN.out]; exact hlt), List.getElem?_eq_getElem _⟩
      obtain ⟨a0, a1, a2, a3⟩ := H.out.cell j q hq
      rw [Nat.zero_add] at a0 a1 a2 a3
      have hp := H.out.ports q (List.mem_of_getElem? hq)
      have HX := hid (HOK.out q (List.mem_of_getElem? hq))
      obtain ⟨x, u⟩ := q
      simp only at a0 a1 a2 a3 hp HX
      have HQ := hid hq
      have HP := hid hp
      obtain ⟨ao, s1, rfl, -⟩ := hp
      have C4 := hid (show ∀ W', Below w.heap.size w W' → W'.cell? ⟨g, j * 4, none⟩ = some (.int .i64 x.prio) ∧ W'.cell? ⟨g, j * 4 + 1, none⟩ = some (.string (tx x.mat)) ∧ W'.cell? ⟨g, j * 4 + 2, none⟩ = some (.int .i64 x.kind) ∧ W'.cell? ⟨g, j * 4 + 3, none⟩ = some (.slice ao x.ports.length s1) from fun W' hb =>
        ⟨(hb.cell (by exact hg)).trans a0, (hb.cell (by exact hg)).trans a1, (hb.cell (by exact hg)).trans a2, (hb.cell (by exact hg)).trans a3⟩)
      obtain ⟨k0, k1, k2, k3⟩ := C4.out _ HB.out
      have hkI : (j : Int) < (n : Int) := by omega
      have hk0 : (0 : Int) ≤ (j : Int) := by omega
      have hkc : (j : Int) ≤ (cap : Int) := by omega
      have hz64 : ∀ p ∈ x.ports, p.length ≤ maxLen := fun p hp => by
        rcases HX.out.act with ⟨_, e⟩ | ⟨_, e⟩
        · rw [e] at hp; cases hp
        · have := nameB_short (e.2.2.1 p hp); unfold maxLen; omega
      have hl64 : x.ports.length ≤ maxLen := by
        rcases HX.out.act with ⟨_, e⟩ | ⟨_, e⟩
        · rw [e]; unfold maxLen; simp
        · have := e.2.1; unfold maxLen; omega
      have hml : x.mat.length ≤ maxLen := by have := HX.out.len; unfold maxLen; omega
      have HCK := hid (fun (W' : World) (hb : Below w.heap.size w W') => RCheckN_any (W := W) (p := x.prio) (k := x.kind) (m := x.mat) (HP.out.below hb) hz64 hl64 hml)
      rw [show errR W ⟨(x.prio : Int), x.mat, (x.kind : Int), x.ports⟩ = 0 from errR_rawR HWW.out HX.out] at HCK
      have HKN := hid (fun (W' : World) (hb : Below w.heap.size w W') => known_row (cap := cap) H.out hb HK.out HQ.out (by rw [HN.out]; omega) ao x.ports.length s1)
      have HLN := hid (fun (W' : World) (hb : Below w.heap.size w W') => RLine_any HX.out hwn (HP.out.below hb) (HT.out.below hb))
      have hln := line_len HX.out
      have HPS := hid (show Ru.printT ((qs.map Prod.fst).take (j + 1)) = T ++ (Wo.sayL (Ru.lineW x) ++ [10]) by
        rw [List.take_add_one, show (qs.map Prod.fst)[j]? = some x by rw [List.getElem?_map, HQ.out]; rfl, HTT.out]
        exact (printT_snoc _ _).trans (List.append_assoc _ _ _))
      obtain ⟨L, hLL⟩ : ∃ L, L = Wo.sayL (Ru.lineW x) := ⟨_, rfl⟩
      rw [← hLL] at HLN HPS hln
      have hov1 : ¬ 9223372036854775807 < L.length + 1 := by omega
      clear hq a0 a1 a2 a3 hLL hz64 hl64 hml
      go_wp2_with fail
      refine (HCK.out _ HB.out).mono ?_
      rintro en w1 ⟨rfl, hb1⟩
      have O1 := hid (HO.out.kept (grown_of_below none hb1) (by rcases hv : (Value.slice bo tl bc).ownBlock with _ | z; exact Or.inl rfl; exact Or.inr (by simp)))
      have B1 := hid (below_2 HB.out hb1)
      obtain ⟨m0, m1, m2, m3⟩ := C4.out _ B1.out
      clear hb1 k0 k1 k2 k3
      go_wp2_with fail
      go_region_held2 (fun W' => W'.cell? ⟨g, j * 4, none⟩ = some (.int .i64 x.prio) ∧ W'.cell? ⟨g, j * 4 + 1, none⟩ = some (.string (tx x.mat)) ∧ W'.cell? ⟨g, j * 4 + 2, none⟩ = some (.int .i64 x.kind) ∧ W'.cell? ⟨g, j * 4 + 3, none⟩ = some (.slice ao x.ports.length s1)) (first | exact ⟨m0, m1, m2, m3⟩ | exact hS2) (first | (go_at_call 36; refine (HKN.out _ (B1.out.drew)).mono ?_; rintro en w2 ⟨rfl, hb2⟩; have hS2 := C4.out _ (below_2 B1.out.drew hb2); have B2 := hid (below_2 B1.out.drew hb2); have O2 := hid (O1.out.kept (grown_of_below none (undrew hb2)) (by rcases hv : (Value.slice bo tl bc).ownBlock with _ | z; exact Or.inl rfl; exact Or.inr (by simp)))))
      obtain ⟨p0, p1, p2, p3⟩ := hS2
      clear hb2 m0 m1 m2 m3
      go_wp2_with fail
      refine (HLN.out _ B2.out).mono ?_
      rintro en w3 ⟨rfl, hb3⟩
      have O3 := hid (O2.out.kept (grown_of_below none hb3) (by rcases hv : (Value.slice bo tl bc).ownBlock with _ | z; exact Or.inl rfl; exact Or.inr (by simp)))
      have B3 := hid (below_2 B2.out hb3)
      have hsz3 := B3.out.size
      clear hb3 p0 p1 p2 p3
      go_wp2_with (first | (at_builtin; refine Lib.wpList_append_own_string _ rfl _ _ 88 9 rfl w.heap.size 5 i0 Tryz.underlying88 Tryz.underlying9 HI.out HZ0.out HZ1.out HZ2.out (.slice bo tl bc) tl (Lib.byteCells T) rfl O3.out (tx (L ++ [10])) (by rw [← tx_app]; rfl) ?c3 ?c4 ?c5 ?_))
      case c3 => rw [tx_size, List.length_append]; unfold maxLen; simp only [List.length_cons, List.length_nil]; omega
      case c4 => rw [tx_size, List.length_append]; simp only [List.length_cons, List.length_nil]; omega
      case c5 => exact hsz3
      intro v' w4 hown4 hg4 _
      have J4 := hid (show w4.ownsRow w.heap.size 5 1 v' (Ru.printT ((qs.map Prod.fst).take (j + 1))).length (Lib.byteCells (Ru.printT ((qs.map Prod.fst).take (j + 1)))) from by
        rw [HPS.out, Lib.byteCells_append, List.length_append, List.length_append, ← HTL.out]
        exact hown4)
      have B4 := hid (show Below w.heap.size w w4 from B3.out.grown hg4 B3.out.size (fun z hz => (O3.out.lt z hz).1))
      obtain ⟨a4, c4, rfl⟩ := own_form hown4
      clear hown4 hg4
      go_wp2
      go_roundw
      case rel => exact ⟨j + 1, by omega, by go_num, J4, B4⟩
      case measure => simp [intOf]; omega
    · have hkI : ¬ ((j : Int) < (n : Int)) := by omega
      have HE := hid (show T = Ru.printT (qs.map Prod.fst) by rw [HTT.out, List.take_of_length_le (by rw [List.length_map, HN.out]; omega)])
      have hcv := bytes_conv (show wr.ownsRow w.heap.size 5 1 (.slice bo tl bc) T.length (Lib.byteCells T) by rw [← HTL.out]; exact HO.out)
      go_wp2
      refine bodyPost_ret (v := .tuple #[.string (tx T), .int .i64 0, .int .i64 0]) (by simp [results, Tryz.results20, go_sem]) rfl ?_
      exact ⟨by rw [← HE.out], HB.out⟩
end Go.Proofs.YtemmhingmeinjaaGreatDoor
namespace Go.Proofs.YtemmhingmeinjaaGreatDoor
open Go.RowKit
open Wo (Wd)

theorem OwnR.wide {w : World} {B : Nat} {v : Value} {ps : List (Raw × Value)} (h : OwnR w B v ps) : ∃ ao c, v = .slice ao ps.length c ∧ (ps = [] ∨ ∃ g, ao = some ⟨g, 0, none⟩ ∧ ps.length ≤ c) := by
  obtain ⟨ao, c, rfl, hc, ⟨_, e⟩ | ⟨g, e, _⟩⟩ := h.form
  · exact ⟨ao, c, rfl, Or.inl e⟩
  · exact ⟨ao, c, rfl, Or.inr ⟨g, e, hc⟩⟩

set_option maxRecDepth 4000 in
set_option maxHeartbeats 1000000 in
theorem RPrint_none {w : World} {ao : Option Addr} {cap : Nat} {W : Int} (hw : 1 ≤ W ∧ W ≤ 128) :
    Calls Tryz.prog 20 #[.slice ao 0 cap, .int .i64 W] w fun en w' => en = .returned (.tuple #[.string (tx (Ru.printT [])), .int .i64 0, .int .i64 0]) ∧ Below w.heap.size w w' := by
  have hw1 : ¬ (W < 1) := by omega
  have hw2 : ¬ ((128 : Int) < W) := by omega
  have hcv := conv_nil w
  go_enter Tryz.func20, Tryz.ntmps20
  go_wp2_with fail
  refine wp_loop_rounds 1 ?_
  rw [rounds_succ]
  go_wp2
  refine bodyPost_ret (v := .tuple #[.string (tx []), .int .i64 0, .int .i64 0]) (by simp [results, Tryz.results20, go_sem]) rfl ?_
  exact ⟨rfl, Below.refl _ _⟩
theorem RPrint_good {w : World} {Q : Nat} {v : Value} {W : Int} {ps : List (Raw × Value)} (h : DocL w 0 Q v ps) (hg : GoodT W (ps.map Prod.fst)) (hT : PowTab w) :
    Calls Tryz.prog 20 #[v, .int .i64 W] w fun en w' => en = .returned (.tuple #[.string (tx (Ru.printT ((ps.map Prod.fst).map Raw.rl))), .int .i64 0, .int .i64 0]) ∧ Below w.heap.size w w' := by
  have hr := h.rowV
  obtain ⟨ao, c, rfl, k⟩ := h.own.wide
  rcases k with rfl | ⟨g, rfl, hc⟩
  · exact RPrint_none hg.wide
  · by_cases h0 : ps = []
    · subst h0
      exact RPrint_none hg.wide
    obtain ⟨_, a2, c2, e2, k⟩ := hr
    injection e2 with e2 _ e3
    rcases k with k | ⟨g', o', e', hv⟩
    · exact absurd k h0
    rw [← e2] at e'
    injection e' with e'
    injection e' with eg eo
    subst eg eo
    have hok : ∀ q ∈ ps, q.1.ok W := fun q hq => errR_ok.1 (hg.ok q.1 (List.mem_map_of_mem hq))
    have hv' := hv.rl hok
    obtain ⟨h1, h2, _⟩ := good_rl hg
    have e : (ps.map fun q => (q.1.rl, q.2)).map Prod.fst = (ps.map Prod.fst).map Raw.rl := by simp [Function.comp_def]
    have hf := hg.few
    rw [List.length_map] at hf
    have := RPrint_some (cap := c) (n := ps.length) (W := W) hv' (List.length_map ..) hf hg.wide (fun q hq => h1 q.1 (by rw [← e]; exact List.mem_map_of_mem hq)) (by rw [e]; exact h2) hc hT
    rw [e] at this
    exact this

set_option maxRecDepth 4000 in
set_option maxHeartbeats 1000000 in
theorem RText_any {w : World} {Q rb : Nat} {W : Int} {L : List Raw} (hD : DTab w Q rb W L) (hg : GoodT W L) (hT : PowTab w) :
    Calls Tryz.prog 7 #[.pointer (some ⟨rb, 0, none⟩)] w fun e w' => e = .returned (.tuple #[.string (tx (Ru.printT (L.map Raw.rl))), .int .i64 0]) ∧ Below w.heap.size w w' := by
  obtain ⟨v, ps, hB, hd, he⟩ := hD.ex
  have hC := fun (X : World) (hX : Below w.heap.size w X) => RPrint_good (W := W) (hd.on hX) (by rw [he]; exact hg) (hT.below hX)
  rw [he] at hC
  have HC := hid hC
  obtain ⟨lo, lc, hv, _⟩ := hd.own.form
  subst hv
  have t0 : w.cell? ⟨rb, 0, none⟩ = some (.int .i64 W) := by rw [cell_at hB]; rfl
  have t1 : w.cell? ⟨rb, 1, none⟩ = some (.slice lo ps.length lc) := by rw [cell_at hB]; rfl
  clear hD he hC hT hd hB hg
  go_enter Tryz.func7, Tryz.ntmps7
  go_wp2_with fail
  go_region_held2 (fun W' => W'.cell? ⟨rb, 0, none⟩ = some (.int .i64 W) ∧ W'.cell? ⟨rb, 1, none⟩ = some (.slice lo ps.length lc)) (first | exact ⟨t0, t1⟩ | exact hS2) (first | (go_at_call 20; refine (HC.out _ ((Below.refl _ _).drew)).mono ?_; rintro en w2 ⟨rfl, hb2⟩; have H2 := hid (undrew hb2); have hS2 := And.intro ((H2.out.cell (block_old t0)).trans t0) ((H2.out.cell (block_old t1)).trans t1); clear hb2))
  go_wp2
  refine bodyPost_ret (v := .tuple #[.string (tx (Ru.printT (L.map Raw.rl))), .int .i64 0]) (by simp [results, Tryz.results7, go_sem]) rfl ⟨rfl, H2.out⟩

set_option maxRecDepth 4000 in
set_option maxHeartbeats 1000000 in
theorem RLines_longL {s : List UInt8} {w : World} (hs : 1048576 < s.length) : Calls Tryz.prog 45 #[.string (tx s)] w fun e w' => e = .returned (.tuple #[.slice none 0 0, .int .i64 0, .int .i64 0, .int .i64 2]) ∧ w' = w := by
  have hI : (1048576 : Int) < (s.length : Int) := by omega
  go_enter Tryz.func45, Tryz.ntmps45
  go_wp2
  refine bodyPost_ret (v := .tuple #[.slice none 0 0, .int .i64 0, .int .i64 0, .int .i64 2]) (by simp [results, Tryz.results45, go_sem]) rfl ⟨rfl, rfl⟩
set_option maxRecDepth 4000 in
set_option maxHeartbeats 1000000 in
theorem DParse_all {s : List UInt8} {W : Int} {w : World} (hw : 1 ≤ W ∧ W ≤ 128) : Calls Tryz.prog 25 #[.string (tx s), .int .i64 W] w fun en w' => ParX w s W en w' := by
  by_cases hs : 1048576 < s.length
  · have hw1 : ¬ (W < 1) := by omega
    have hw2 : ¬ ((128 : Int) < W) := by omega
    have HN := hid (RLines_longL (w := w) hs)
    have HX := hid (show prsX s W = ([], (0, 0, 2)) by unfold prsX; rw [if_pos hs])
    clear hs
    go_enter Tryz.func25, Tryz.ntmps25
    go_wp2_with fail
    refine HN.out.mono ?_
    rintro en w1 ⟨rfl, rfl⟩
    go_wp2
    refine bodyPost_ret (v := .tuple #[.slice none 0 0, .int .i64 0, .int .i64 0, .int .i64 2]) (by simp [results, Tryz.results25, go_sem]) rfl ?_
    refine ⟨Below.refl _ _, .slice none 0 0, [], by rw [HX.out]; rfl, by rw [HX.out]; rfl, RsAt.nil _ _⟩
  · have e : prsX s W = prsA s W := by unfold prsX; rw [if_neg hs]
    unfold ParX
    rw [e]
    exact (DParse_any s W w (by omega)).mono fun en w' h => h.one

theorem ROrder_rs {w : World} {v : Value} {W : Int} {qs : List (Ru.Rl × Value)} {rs : List Ru.Rl} (hw : 1 ≤ W ∧ W ≤ 128) (hR : RsAt w 0 v qs) (hq : qs.map Prod.fst = rs) (hok : ∀ y ∈ rs, Ru.OkRl W.toNat y) (hk : rs.Pairwise (fun a b => Ru.same a b = false)) (hn : rs.length ≤ 4096) :
    Calls Tryz.prog 26 #[v] w fun e w' => ∃ ao n c ps, e = .returned (.slice ao n c) ∧ Hid (Below w.heap.size w w' ∧ OwnR w' w.heap.size (.slice ao n c) ps ∧ (∀ q ∈ ps, PortsV w' 0 q.2 q.1.ports ∧ ∀ p ∈ q.1.ports, p.length ≤ maxLen) ∧ n = ps.length ∧ GoodT W (ps.map Prod.fst) ∧ (ps.map Prod.fst).Perm (rs.map rawR)) := by
  have hl : qs.length = rs.length := by rw [← hq, List.length_map]
  by_cases h0 : 0 < qs.length
  · obtain ⟨g, cap, rfl, hv⟩ := rs_raw hR (fun q hm => hok q.1 (by rw [← hq]; exact List.mem_map_of_mem hm)) h0
    have he := rawQ_fst qs
    rw [hq] at he
    have hlen : (qs.map rawQ).length = qs.length := List.length_map ..
    refine (ROrder_some (cap := cap) hv hlen (by omega)).mono ?_
    rintro e w' ⟨bo, bc, S, rfl, hD⟩
    have hD := hD.out
    have hS : Pc (cmpAt (qs.map rawQ)) 0 (qs.map rawQ).length S := ⟨Nat.zero_le _, hD.up, by rw [hlen, Nat.sub_zero]; exact hD.perm⟩
    have hg := good_sorted hw he hok hk hn hS
    have hSl := hD.len
    have hmem : ∀ q ∈ rowOf (qs.map rawQ) S, q ∈ qs.map rawQ := fun q hm => by
      obtain ⟨i, hi, e⟩ := List.mem_map.1 hm
      have := hD.mem hi
      rw [List.getD_eq_getElem?_getD, List.getElem?_eq_getElem (show i < (qs.map rawQ).length by omega)] at e
      rw [← e]
      exact List.getElem_mem _
    have htx : ∀ q ∈ rowOf (qs.map rawQ) S, PortsV w' 0 q.2 q.1.ports ∧ ∀ p ∈ q.1.ports, p.length ≤ maxLen := fun q hm => by
      refine ⟨?_, (hv.ports q (hmem q hm)).2⟩
      obtain ⟨q0, hq0, rfl⟩ := List.mem_map.1 (hmem q hm)
      exact (hR.ports q0 hq0).kept (fun b cs hb _ => hD.low.block b (lt_of_block hb))
    have hrl := rowOf_len (qs.map rawQ) S
    refine ⟨bo, qs.length, bc, rowOf (qs.map rawQ) S, rfl, hD.low, ⟨by rw [hrl, hSl]; exact hD.own, fun q hm => ?_⟩, htx, by omega, by rw [rowOf_fst]; exact hg, by rw [rowOf_fst, ← he]; exact raw_perm hS⟩
    exact (htx q hm).1.form
  · have hr0 : rs = [] := List.length_eq_zero_iff.1 (by omega)
    obtain ⟨ao, cap, rfl⟩ := hR.form
    rw [show qs.length = 0 by omega]
    refine ROrder_none.mono ?_
    rintro e w' ⟨rfl, hb⟩
    exact ⟨none, 0, 0, [], rfl, hb, ⟨World.ownsRow_nil _ _ _ _, (fun q hq => by cases hq)⟩, (fun q hq => by cases hq), rfl, GoodT.nil hw, by rw [hr0]; exact List.Perm.refl _⟩

def RLoadPost (w : World) (rb : Nat) (W : Int) (L : List Raw) (s : List UInt8) (e : Ending) (w' : World) : Prop :=
  w.grownBy w' (some rb) ∧ e = .returned (.tuple #[.int .i64 (ldT (prsX s W).2).1, .int .i64 (ldT (prsX s W).2).2.1, .int .i64 (ldT (prsX s W).2).2.2]) ∧ ∃ L2 lo lc qs, LdR s W L L2 ∧ w'.cell? ⟨rb, 1, none⟩ = some (.slice lo L2.length lc) ∧ qs.map Prod.fst = L2 ∧ RowV w' (.slice lo L2.length lc) L2.length qs

set_option maxRecDepth 20000 in
set_option maxHeartbeats 2000000 in
theorem RLoad_any {w : World} {Q rb : Nat} {W : Int} {L : List Raw} {s : List UInt8} (hw : 1 ≤ W ∧ W ≤ 128) (hD : DTab w Q rb W L) :
    Calls Tryz.prog 12 #[.pointer (some ⟨rb, 0, none⟩), .string (tx s)] w fun e w' => RLoadPost w rb W L s e w' := by
  have HD := hid hD
  obtain ⟨v, ps, hB, hd, he⟩ := hD.ex
  obtain ⟨m1, m2, m3⟩ := prsX_may (s := s) (W := W)
  have HP := hid (DParse_all (s := s) (w := w) hw)
  have HOR := hid (fun (X : World) (v : Value) (qs : List (Ru.Rl × Value)) (hR : RsAt X 0 v qs) (hq : qs.map Prod.fst = (prsX s W).1) => ROrder_rs hw hR hq m2 m3 m1)
  have t0 : w.cell? ⟨rb, 0, none⟩ = some (.int .i64 W) := by rw [cell_at hB]; rfl
  have HT := hid hB
  have HLE := hid (fun L2 => show LdR s W L L2 ↔ (((prsX s W).2.2.2 ≠ 0 ∧ L2 = L) ∨ ((prsX s W).2.2.2 = 0 ∧ Srt L2 ∧ L2.Perm ((prsX s W).1.map rawR))) from Iff.rfl)
  unfold ParX at HP
  unfold RLoadPost
  obtain ⟨x, hx⟩ : ∃ x, x = prsX s W := ⟨_, rfl⟩
  rw [← hx] at HP HOR HLE ⊢
  obtain ⟨rs, a, b, c⟩ := x
  simp only at HP HOR HLE ⊢
  clear hB hD he hw m1 m2 m3 hx hd
  go_enter Tryz.func12, Tryz.ntmps12
  go_wp2_with fail
  refine HP.out.mono ?_
  rintro en w2 ⟨hb2, v2, qs, hq, rfl, hR⟩
  obtain ⟨vo, vc, rfl⟩ := hR.form
  have B2 := hid hb2
  have HO := hid (HOR.out _ _ qs hR hq)
  clear hq hR HOR
  by_cases hc : c = 0
  · subst hc
    clear hb2
    go_wp2_with fail
    refine HO.out.mono ?_
    rintro en w3 ⟨ao3, n3, c3, ps3, rfl, h3⟩
    have hB3 := below_2 B2.out h3.out.1
    have hT3 := below_block hB3 HT.out (lt_of_block HT.out)
    have s1 : w3.cell? ⟨rb, 1, none⟩ = some v := by rw [cell_at hT3]; rfl
    have f1 : w3.frozen? ⟨rb, 1, none⟩ = false := free_of hT3
    have HFIN := hid (show w.grownBy (w3.setCell ⟨rb, 1, none⟩ (.slice ao3 n3 c3)) (some rb) ∧ (w3.setCell ⟨rb, 1, none⟩ (.slice ao3 n3 c3)).cell? ⟨rb, 1, none⟩ = some (.slice ao3 n3 c3) ∧ RowV (w3.setCell ⟨rb, 1, none⟩ (.slice ao3 n3 c3)) (.slice ao3 n3 c3) n3 ps3 from by
      obtain ⟨_, hown, htx, hn3, _⟩ := h3.out
      have hg : w3.grownBy (w3.setCell ⟨rb, 1, none⟩ (.slice ao3 n3 c3)) (some rb) := grown_cell _ _ _ _
      have k := hown.grew hg hT3 (by decide)
      have hr := k.rowV (fun q hq => ⟨((htx q hq).1.kept (fun b cs hb _ => hg.block b (lt_of_block hb) (fun e => by injection e with e; exact ne_type hb hT3 (by decide) e))).txs, (htx q hq).2⟩)
      rw [← hn3] at hr
      refine ⟨grown_two (grown_of_below _ hB3) hg, ?_, hr⟩
      rw [cell_at (block_set (o := 1) _ hT3)]; rfl)
    have HH := hid h3.out.2.2.2
    clear h3 hT3 hB3
    go_wp2
    refine bodyPost_ret (v := .tuple #[.int .i64 0, .int .i64 0, .int .i64 0]) (by simp [results, Tryz.results12, go_sem]) rfl ?_
    obtain ⟨hn3, hg3, hp3⟩ := HH.out
    have hl3 : (ps3.map Prod.fst).length = n3 := by rw [List.length_map, hn3]
    exact ⟨HFIN.out.1, rfl, ps3.map Prod.fst, ao3, c3, ps3, (HLE.out _).2 (Or.inr ⟨by simp, hg3.srt, hp3⟩), by rw [hl3]; exact HFIN.out.2.1, rfl, by rw [hl3]; exact HFIN.out.2.2⟩
  · have hcI : ¬ ((c : Int) = 0) := by omega
    have HRW := hid ((HD.out.on B2.out).row)
    clear hb2
    go_wp2
    refine bodyPost_ret (v := .tuple #[.int .i64 a, .int .i64 b, .int .i64 c]) (by simp [results, Tryz.results12, go_sem]) rfl ?_
    obtain ⟨lo, lc, hc1, qs1, e1, hr1, _⟩ := HRW.out
    exact ⟨grown_of_below _ B2.out, by rw [ldT_ne hc], L, lo, lc, qs1, (HLE.out _).2 (Or.inl ⟨hc, rfl⟩), hc1, e1, hr1⟩
end Go.Proofs.YtemmhingmeinjaaGreatDoor
