/-
  awake: two rules that are known.
-/
import Derived.Test.YtemmhingmeinjaaGreatDoorRBothAnd
import Derived.Test.YtemmhingmeinjaaGreatDoorRLay
import Derived.Test.YtemmhingmeinjaaGreatDoorVDocFAnd
import Derived.Lib.Agree
namespace Go.Proofs.YtemmhingmeinjaaGreatDoor.Cub
open Go.RowKit

def hasX (s : ByteArray) : Bool := s.data.toList.contains 120
def errH (c h : ByteArray) : Int := if hasX h = true then 10 else err2 h c
def hasB (c h : ByteArray) : Bool := !hasX h && insB h c

set_option maxRecDepth 8000 in
set_option maxHeartbeats 400000 in
theorem Has_any (c h : ByteArray) (w : World) :
    Calls Tryz.prog 89 #[.string c, .string h] w fun e w' => e = .returned (.tuple #[.bool (hasB c h), .int .i64 (errH c h)]) ∧ Below w.heap.size w w' := by
  rcases bool_two (hasX h) with hx | hx
  · have e1 : hasB c h = insB h c := by simp [hasB, hx]
    have e2 : errH c h = err2 h c := by simp [errH, hx]
    rw [e1, e2]
    have HX := hid hx
    clear hx e1 e2
    go_enter Tryz.func89, Tryz.ntmps89
    go_wp2_with fail
    have q := Contains_x h w
    rw [show h.data.toList.contains 120 = false from HX.out] at q
    refine q.mono ?_
    clear q
    rintro e w1 ⟨rfl, rfl⟩
    go_wp2_with fail
    refine (Inside_any h c _).mono ?_
    rintro e w2 ⟨rfl, hb2⟩
    go_wp2
    go_ret2
    exact ⟨rfl, hb2⟩
  · have e1 : hasB c h = false := by simp [hasB, hx]
    have e2 : errH c h = 10 := by simp [errH, hx]
    rw [e1, e2]
    have HX := hid hx
    clear hx e1 e2
    go_enter Tryz.func89, Tryz.ntmps89
    go_wp2_with fail
    have q := Contains_x h w
    rw [show h.data.toList.contains 120 = true from HX.out] at q
    refine q.mono ?_
    clear q
    rintro e w1 ⟨rfl, rfl⟩
    go_wp2
    go_ret2
    exact ⟨rfl, Below.refl _ _⟩

end Go.Proofs.YtemmhingmeinjaaGreatDoor.Cub
namespace Go.Proofs.YtemmhingmeinjaaGreatDoor
open Go.Shelf Go.RowKit

theorem Tryz.extraRepeat : Builder.Extra Tryz.prog Tryz.laysRepeat_ren := {
  sizeBuilder := by kernel_rfl
  liesBuilder := by kernel_rfl
  t5 := Tryz.laysRepeat.t5
  a5 := Tryz.laysRepeat.a5
  z5 := Tryz.laysRepeat.z5
  v5 := Tryz.laysRepeat.v5
  infoByte := by kernel_rfl
  cellsByte := by kernel_rfl
  sizeByte := by kernel_rfl
  neB5 := by decide }
theorem Tryz.fRepeat : Tryz.laysRepeat_ren.f 105 = 125 := by kernel_rfl
theorem RepeatV_x (n : Nat) (w : World) (hn : n ≤ 128) :
    Calls Tryz.prog 125 #[.string ⟨#[120]⟩, .int .i64 n] w fun e w' => e = .returned (.string ⟨(List.replicate n 120).toArray⟩) ∧ Below w.heap.size w w' := by
  have h := Any.strings_Repeat Tryz.laysRepeat Tryz.extraRepeat ⟨#[120]⟩ n w (by omega) (by show 1 * n ≤ _; omega)
  rw [Tryz.fRepeat] at h
  refine h.mono fun e w' ⟨he, hw⟩ => ⟨?_, hw⟩
  rw [he]
  have e : Lib.repeatL (ByteArray.mk #[120]).data.toList n = List.replicate n 120 := by
    have := Lib.repeatL_replicate 120 1 n
    rw [Nat.mul_one] at this
    exact this
  rw [e]
set_option maxRecDepth 4000 in
set_option maxHeartbeats 400000 in
theorem EveryV {m : Nat} (w : World) (h1 : 1 ≤ m) (h2 : m ≤ 128) : Calls Tryz.prog 88 #[.int .i64 (m : Int)] w fun e w' => e = .returned (.tuple #[.string ⟨(List.replicate m 120).toArray⟩, .int .i64 0]) ∧ Below w.heap.size w w' := by
  have HR := hid (RepeatV_x m w h2)
  have a1 : ¬ (m : Int) < 1 := by omega
  have a2 : ¬ (128 : Int) < (m : Int) := by omega
  go_enter Tryz.func88, Tryz.ntmps88
  go_wp2_with fail
  refine HR.out.mono ?_
  rintro e w1 ⟨rfl, hb1⟩
  go_wp2
  go_ret2
  exact ⟨rfl, hb1⟩

def headB (W : Int) (h : List UInt8) : Bool := decide (Cub.errH ⟨(List.replicate W.toNat 120).toArray⟩ (tx h) = 0)
def liesB (r : Raw) (h : List UInt8) : Bool := Cub.hasB (tx r.mat) (tx h)

set_option maxRecDepth 4000 in
set_option maxHeartbeats 1000000 in
theorem isHeader_any {w : World} {tb : Nat} {W : Int} {h : List UInt8} (hc : w.cell? ⟨tb, 0, none⟩ = some (.int .i64 W)) (hw : 1 ≤ W ∧ W ≤ 128) :
    Calls Tryz.prog 54 #[.pointer (some ⟨tb, 0, none⟩), .string (tx h)] w fun e w' => e = .returned (.bool (headB W h)) ∧ Below w.heap.size w w' := by
  obtain ⟨m, rfl⟩ : ∃ m : Nat, W = (m : Int) := ⟨W.toNat, by omega⟩
  have HE := hid (EveryV w (m := m) (by omega) (by omega))
  have HH := hid (fun w' => Cub.Has_any ⟨(List.replicate m 120).toArray⟩ (tx h) w')
  have HB := hid (show headB (m : Int) h = decide (Cub.errH ⟨(List.replicate m 120).toArray⟩ (tx h) = 0) from rfl)
  obtain ⟨er, her⟩ : ∃ er, er = Cub.errH ⟨(List.replicate m 120).toArray⟩ (tx h) := ⟨_, rfl⟩
  obtain ⟨hb, hhb⟩ : ∃ hb, hb = Cub.hasB ⟨(List.replicate m 120).toArray⟩ (tx h) := ⟨_, rfl⟩
  rw [← her] at HB
  rw [← her, ← hhb] at HH
  clear her hhb
  go_enter Tryz.func54, Tryz.ntmps54
  go_wp2_with fail
  refine HE.out.mono ?_
  rintro e w1 ⟨rfl, hb1⟩
  have B1 := hid hb1
  clear hb1
  go_wp2_with fail
  refine (HH.out _).mono ?_
  rintro e w2 ⟨rfl, hb2⟩
  have B2 := hid (below_2 B1.out hb2)
  clear hb2
  go_wp2
  go_ret
  exact ⟨by rw [HB.out]; rfl, B2.out⟩

set_option maxRecDepth 4000 in
set_option maxHeartbeats 1000000 in
theorem met1_any {w : World} {cb : Nat} {p k : Int} {m h : List UInt8} {ao : Option Addr} {n c : Nat} (zs : List (List UInt8)) (hc : w.cell? ⟨cb, 0, none⟩ = some (.string (tx h))) :
    Calls Tryz.prog 91 #[.agg #[.int .i64 p, .string (tx m), .int .i64 k, .slice ao n c], .pointer (some ⟨cb, 0, none⟩)] w fun e w' => e = .returned (.bool (liesB ⟨p, m, k, zs⟩ h)) ∧ Below w.heap.size w w' := by
  have HH := hid (fun w' => Cub.Has_any (tx m) (tx h) w')
  have HB := hid (show liesB ⟨p, m, k, zs⟩ h = Cub.hasB (tx m) (tx h) from rfl)
  obtain ⟨er, her⟩ : ∃ er, er = Cub.errH (tx m) (tx h) := ⟨_, rfl⟩
  obtain ⟨hb, hhb⟩ : ∃ hb, hb = Cub.hasB (tx m) (tx h) := ⟨_, rfl⟩
  rw [← hhb] at HB
  rw [← her, ← hhb] at HH
  clear her hhb
  have hca : ∀ o, (w.alloc o).cell? ⟨cb, 0, none⟩ = some (.string (tx h)) := fun o => alloc_cell hc (block_old hc) o
  go_enter Tryz.func91, Tryz.ntmps91
  go_wp2_with fail
  refine (HH.out _).mono ?_
  rintro e w2 ⟨rfl, hb2⟩
  have B2 := hid (below_2 ((Below.refl _ _).alloc (Nat.le_refl _) _) hb2)
  clear hb2
  go_wp2
  go_ret
  exact ⟨by rw [HB.out]; rfl, B2.out⟩
theorem Tryz.entMet : ∀ args w, (callFunc 91 args).run Tryz.prog w = .ok (.enter 91 args) w := fun _ _ => by kernel_rfl
def metN (L : List Raw) (h : List UInt8) : Int := match L.findIdx? (fun a => liesB a h) with
  | some j => (j : Int)
  | none => -1

set_option maxRecDepth 20000 in
set_option maxHeartbeats 2000000 in
theorem IndexFunc_any {w : World} {B n c cb : Nat} {ao : Option Addr} {h : List UInt8} {ps : List (Raw × Value)} (ho : OwnR w B (.slice ao n c) ps) (hn : ps.length = n) (h60 : n ≤ 4096) (hc : w.cell? ⟨cb, 0, none⟩ = some (.string (tx h))) :
    Calls Tryz.prog 90 #[.slice ao n c, .func (.func 91) #[] #[.pointer (some ⟨cb, 0, none⟩)]] w fun e w' => e = .returned (.int .i64 (metN (ps.map Prod.fst) h)) ∧ Below w.heap.size w w' := by
  have HO := hid ho
  have HN := hid hn
  have hent := Tryz.entMet
  have hcb := block_old hc
  have HC := hid hc
  clear ho hn hc
  go_enter Tryz.func90, Tryz.ntmps90
  go_wp2_with fail
  go_loopw [8, 5] (fun i _ wr => ∃ j : Nat, j ≤ n ∧ i = .int .i64 j ∧ Hid ((∀ b ∈ (ps.map Prod.fst).take j, liesB b h = false) ∧ Below w.heap.size w wr)) (fun i _ _ => n - (intOf i).toNat)
  case atStart => exact ⟨0, Nat.zero_le _, rfl, fun b hb => by simp at hb, Below.refl _ _⟩
  case round =>
    obtain ⟨j, hj, rfl, HJ⟩ := hrel
    by_cases hlt : j < n
    · obtain ⟨q, hq⟩ : ∃ q, ps[j]? = some q := ⟨ps[j]'(by rw [HN.out]; exact hlt), List.getElem?_eq_getElem _⟩
      have hq1 : (ps.map Prod.fst)[j]? = some q.1 := by rw [List.getElem?_map, hq]; rfl
      obtain ⟨g, rfl⟩ : ∃ g, ao = some ⟨g, 0, none⟩ := by
        obtain ⟨lo, lc, e, _, hf⟩ := HO.out.form
        injection e with e1 _ _
        subst e1
        rcases hf with ⟨_, h0⟩ | ⟨g, h1, _⟩
        · rw [h0] at hq; simp at hq
        · exact ⟨g, h1⟩
      obtain ⟨c0, c1, c2, c3⟩ := (HO.out.on HJ.out.2).cells hq
      obtain ⟨po, pl, pc, hqv⟩ := HO.out.vals q (List.mem_of_getElem? hq)
      have HTK := hid (show (ps.map Prod.fst).take (j + 1) = (ps.map Prod.fst).take j ++ [q.1] by rw [List.take_add_one, hq1]; rfl)
      have HQ1 := hid hq1
      have hkI : (j : Int) < (n : Int) := by omega
      have hk0 : (0 : Int) ≤ (j : Int) := by omega
      obtain ⟨⟨p', m', k', z'⟩, uv⟩ := q
      simp only at c0 c1 c2 c3 hqv HTK HQ1
      subst hqv
      have HM := hid (met1_any (w := wr) (cb := cb) (p := p') (k := k') (m := m') (h := h) (ao := po) (n := pl) (c := pc) z' ((HJ.out.2.cell (by exact hcb)).trans HC.out))
      clear hq hq1
      cases hl : liesB ⟨p', m', k', z'⟩ h with
      | true =>
        rw [hl] at HM
        have HR := hid (show metN (ps.map Prod.fst) h = (j : Int) from by
          have : (ps.map Prod.fst).findIdx? (fun a => liesB a h) = some j := by
            rw [List.findIdx?_eq_some_iff_getElem]
            obtain ⟨hj2, e⟩ := List.getElem?_eq_some_iff.1 HQ1.out
            refine ⟨hj2, by rw [e]; exact hl, fun i hi => ?_⟩
            rw [HJ.out.1 _ (List.mem_take_iff_getElem.2 ⟨i, by omega, rfl⟩)]
            decide
          unfold metN
          rw [this])
        clear hl
        go_wp2_with (go_at_call 91; refine HM.out.mono ?_; rintro e w2 ⟨rfl, hb2⟩; have B2 := hid hb2; clear hb2)
        go_ret
        exact ⟨by rw [HR.out]; rfl, below_2 HJ.out.2 B2.out⟩
      | false =>
        rw [hl] at HM
        have HNN := hid (show ∀ b ∈ (ps.map Prod.fst).take (j + 1), liesB b h = false from fun b hb => by
          rw [HTK.out] at hb
          rcases List.mem_append.1 hb with hb | hb
          · exact HJ.out.1 b hb
          · rw [List.mem_singleton.1 hb]; exact hl)
        clear hl
        go_wp2_with (go_at_call 91; refine HM.out.mono ?_; rintro e w2 ⟨rfl, hb2⟩; have B2 := hid hb2; clear hb2)
        go_roundw
        case rel => exact ⟨j + 1, by omega, by go_num, HNN.out, below_2 HJ.out.2 B2.out⟩
        case measure => simp [intOf]; omega
    · have hjn : j = n := by omega
      have HR := hid (show metN (ps.map Prod.fst) h = -1 from by
        have : (ps.map Prod.fst).findIdx? (fun a => liesB a h) = none := by
          rw [List.findIdx?_eq_none_iff]
          exact fun b hb => HJ.out.1 b (by rw [List.take_of_length_le (by rw [List.length_map, HN.out]; omega)]; exact hb)
        unfold metN
        rw [this])
      have hkI : ¬ ((j : Int) < (n : Int)) := by omega
      clear hlt hjn
      go_wp2
      go_ret
      exact ⟨by rw [HR.out]; rfl, HJ.out.2⟩
end Go.Proofs.YtemmhingmeinjaaGreatDoor
namespace Go.Proofs.YtemmhingmeinjaaGreatDoor
open Go.RowKit

set_option maxRecDepth 4000 in
set_option maxHeartbeats 1000000 in
theorem met_any {w : World} {Bp tb : Nat} {W : Int} {v : Value} {ps : List (Raw × Value)} {h : List UInt8} (ht : TabAt w Bp tb W v ps) :
    Calls Tryz.prog 55 #[.pointer (some ⟨tb, 0, none⟩), .string (tx h)] w fun e w' => e = .returned (.int .i64 (metN (ps.map Prod.fst) h)) ∧ Below w.heap.size w w' := by
  obtain ⟨lo, lc, hv, _⟩ := ht.list.form
  subst hv
  have t1 : w.cell? ⟨tb, 1, none⟩ = some (.slice lo ps.length lc) := by rw [cell_at ht.blk]; rfl
  have t1a : ∀ o, (w.alloc o).cell? ⟨tb, 1, none⟩ = some (.slice lo ps.length lc) := fun o => alloc_cell t1 (lt_of_block ht.blk) o
  have HB := hid (show Below w.heap.size w (w.alloc (.cells #[.string (tx h)] 9)) from (Below.refl _ _).alloc (Nat.le_refl _) _)
  have HI := hid (IndexFunc_any (h := h) (cb := w.heap.size) (ht.list.on HB.out) rfl (by have := ht.good.few; simpa using this) (by rw [cell_at (new_0 w _)]; rfl))
  clear ht
  go_enter Tryz.func55, Tryz.ntmps55
  go_wp2_with fail
  refine HI.out.mono ?_
  rintro e w2 ⟨rfl, hb2⟩
  have B2 := hid (below_2 HB.out hb2)
  clear hb2
  go_wp2
  go_ret
  exact ⟨rfl, B2.out⟩
abbrev noR : Value := .agg #[.int .i64 0, .string (tx []), .int .i64 0, .slice none 0 0]
def MeetPost (w : World) (W : Int) (L : List Raw) (h : List UInt8) (e : Ending) (w' : World) : Prop :=
  Below w.heap.size w w' ∧ ((headB W h = false ∧ e = .returned (.tuple #[noR, .bool false, .int .i64 21])) ∨
    (headB W h = true ∧ metN L h < 0 ∧ e = .returned (.tuple #[noR, .bool false, .int .i64 0])) ∨
    (headB W h = true ∧ ∃ (j : Nat) (r : Raw) (ao : Option Addr) (n c : Nat), L[j]? = some r ∧ metN L h = (j : Int) ∧ e = .returned (.tuple #[.agg #[.int .i64 r.prio, .string (tx r.mat), .int .i64 r.kind, .slice ao n c], .bool true, .int .i64 0]) ∧ Ported w' w.heap.size (.slice ao n c) r.ports))
theorem metN_at {L : List Raw} {h : List UInt8} (hm : ¬ metN L h < 0) : ∃ (j : Nat) (r : Raw), metN L h = (j : Int) ∧ L[j]? = some r := by
  unfold metN at hm ⊢
  cases q : L.findIdx? (fun a => liesB a h) with
  | none => rw [q] at hm; exact absurd (by decide) hm
  | some j =>
    obtain ⟨hj, _⟩ := List.findIdx?_eq_some_iff_getElem.1 q
    exact ⟨j, L[j], rfl, List.getElem?_eq_getElem hj⟩

set_option maxRecDepth 20000 in
set_option maxHeartbeats 2000000 in
theorem Meets_any {w : World} {Bp tb : Nat} {W : Int} {L : List Raw} {h : List UInt8} (hF : FTab w Bp tb W L) :
    Calls Tryz.prog 30 #[.pointer (some ⟨tb, 0, none⟩), .string (tx h)] w fun e w' => MeetPost w W L h e w' := by
  obtain ⟨v, ps, ht, rfl⟩ := hF.ex
  have HB0 := hid (show Below w.heap.size w (w.alloc (rob 0 (tx []) 0 (.slice none 0 0))) from (Below.refl _ _).alloc (Nat.le_refl _) _)
  have HT0 := hid (ht.on HB0.out)
  have HR0 := hid (new_0 w (rob 0 (tx []) 0 (.slice none 0 0)))
  have HMD := hid (made_yes HT0.out.blk)
  have HIH := hid (isHeader_any (h := h) (show (w.alloc (rob 0 (tx []) 0 (.slice none 0 0))).cell? ⟨tb, 0, none⟩ = some (.int .i64 W) by rw [cell_at HT0.out.blk]; rfl) ht.good.wide)
  have HT := hid ht
  clear ht hF
  go_enter Tryz.func30, Tryz.ntmps30
  go_wp2_with fail
  refine HMD.out.mono ?_
  rintro en w1 ⟨rfl, hw1⟩
  subst hw1
  go_wp2_with fail
  refine HIH.out.mono ?_
  rintro en w2 ⟨rfl, hb2⟩
  have B2 := hid (below_2 HB0.out hb2)
  have HR2 := hid (below_block hb2 HR0.out (lt_of_block HR0.out))
  have HT2 := hid (HT0.out.on hb2)
  obtain ⟨r0, r1, r2, r3, f0, f1, f2, f3⟩ := rob_cells HR2.out
  clear hb2
  cases hh : headB W h with
  | false =>
    have HH := hid hh
    clear hh
    have hB5 := rob_4 (rob_3 (rob_2 (rob_1 HR2.out 0) (tx [])) 0) (.slice none 0 0)
    obtain ⟨n0, n1, n2, n3, _, _, _, _⟩ := rob_cells hB5
    have HBF := hid ((((B2.out.setCell (p := ⟨w.heap.size, 0, none⟩) (Nat.le_refl _) (.int .i64 0)).setCell (p := ⟨w.heap.size, 1, none⟩) (Nat.le_refl _) (.string (tx []))).setCell (p := ⟨w.heap.size, 2, none⟩) (Nat.le_refl _) (.int .i64 0)).setCell (p := ⟨w.heap.size, 3, none⟩) (Nat.le_refl _) (.slice none 0 0))
    clear hB5
    go_wp2
    refine bodyPost_ret (v := .tuple #[noR, .bool false, .int .i64 21]) (by simp [results, Tryz.results30, go_sem, n0, n1, n2, n3]) rfl ⟨HBF.out, Or.inl ⟨HH.out, rfl⟩⟩
  | true =>
    have HH := hid hh
    clear hh
    have HME := hid (met_any (h := h) HT2.out)
    go_wp2_with fail
    refine HME.out.mono ?_
    rintro en w3 ⟨rfl, hb3⟩
    have B3 := hid (below_2 B2.out hb3)
    have HR3 := hid (below_block hb3 HR2.out (lt_of_block HR2.out))
    have HT3 := hid (HT2.out.on hb3)
    clear r0 r1 r2 r3 f0 f1 f2 f3 hb3
    obtain ⟨r0, r1, r2, r3, f0, f1, f2, f3⟩ := rob_cells HR3.out
    by_cases hm : metN (ps.map Prod.fst) h < 0
    · have HM := hid hm
      have hB5 := rob_4 (rob_3 (rob_2 (rob_1 HR3.out 0) (tx [])) 0) (.slice none 0 0)
      obtain ⟨n0, n1, n2, n3, _, _, _, _⟩ := rob_cells hB5
      have HBF := hid ((((B3.out.setCell (p := ⟨w.heap.size, 0, none⟩) (Nat.le_refl _) (.int .i64 0)).setCell (p := ⟨w.heap.size, 1, none⟩) (Nat.le_refl _) (.string (tx []))).setCell (p := ⟨w.heap.size, 2, none⟩) (Nat.le_refl _) (.int .i64 0)).setCell (p := ⟨w.heap.size, 3, none⟩) (Nat.le_refl _) (.slice none 0 0))
      clear hB5
      go_wp2
      refine bodyPost_ret (v := .tuple #[noR, .bool false, .int .i64 0]) (by simp [results, Tryz.results30, go_sem, n0, n1, n2, n3]) rfl ⟨HBF.out, Or.inr (Or.inl ⟨HH.out, HM.out, rfl⟩)⟩
    · obtain ⟨j, r, hmj, hjr⟩ := metN_at hm
      have HMJ := hid (And.intro hjr hmj)
      obtain ⟨q, hq, hqr⟩ : ∃ q, ps[j]? = some q ∧ q.1 = r := by
        rw [List.getElem?_map, Option.map_eq_some_iff] at hjr
        obtain ⟨q, h1, h2⟩ := hjr
        exact ⟨q, h1, h2⟩
      subst hqr
      have hjl : j < ps.length := (List.getElem?_eq_some_iff.1 hq).1
      obtain ⟨lo, lc, hve, hnc, hform⟩ := HT3.out.list.form
      obtain ⟨g, rfl, _, _⟩ : ∃ g, lo = some ⟨g, 0, none⟩ ∧ Bp ≤ g ∧ g < w3.heap.size := by
        rcases hform with ⟨_, h0⟩ | h1
        · rw [h0] at hjl; simp at hjl
        · exact h1
      subst hve
      obtain ⟨q0, q1, q2, q3⟩ := HT3.out.list.cells hq
      have hpo := HT3.out.ports q (List.mem_of_getElem? hq)
      have hok := HT3.out.good.ok q.1 (List.mem_map_of_mem (List.mem_of_getElem? hq))
      have HSM := hid (errR_small hok)
      have t1 : w3.cell? ⟨tb, 1, none⟩ = some (.slice (some ⟨g, 0, none⟩) ps.length lc) := by rw [cell_at HT3.out.blk]; rfl
      obtain ⟨po, pl, pc, hqv⟩ := HT3.out.list.vals q (List.mem_of_getElem? hq)
      obtain ⟨⟨p', m', k', z'⟩, uv⟩ := q
      simp only at q0 q1 q2 q3 hqv hpo HSM HMJ hmj
      subst hqv
      have HCP := hid (fcopyOf_any (p := p') (k := k') (m := m') hpo.txs (fun z hz => by have := HSM.out.2.2.2 z hz; unfold maxLen; omega) HSM.out.1)
      have i0 : (0 : Int) ≤ (j : Int) := by omega
      have i1 : (j : Int) < (ps.length : Int) := by omega
      have i2 : ¬ ((j : Int) < 0) := by omega
      rw [hmj]
      clear hm hmj hjr hq hform hpo hok
      go_wp2_with fail
      refine HCP.out.mono ?_
      rintro en w5 ⟨v5, rfl, hp5, hb5⟩
      obtain ⟨ao5, c5, hv5, hc5⟩ := hp5.out
      subst hv5
      have HP5 := hid hp5.out
      have HR5 := hid (below_block hb5 HR3.out (lt_of_block HR3.out))
      have B5 := hid (below_2 B3.out hb5)
      have HSZ := hid (show w.heap.size ≤ w3.heap.size from B3.out.size)
      clear r0 r1 r2 r3 f0 f1 f2 f3 hb5 hp5 hc5 t1 q0 q1 q2 q3
      obtain ⟨r0, r1, r2, r3, f0, f1, f2, f3⟩ := rob_cells HR5.out
      have hB6 := rob_4 (rob_3 (rob_2 (rob_1 HR5.out p') (tx m')) k') (.slice ao5 z'.length c5)
      obtain ⟨n0, n1, n2, n3, _, _, _, _⟩ := rob_cells hB6
      have HBF := hid ((((B5.out.setCell (p := ⟨w.heap.size, 0, none⟩) (Nat.le_refl _) (.int .i64 p')).setCell (p := ⟨w.heap.size, 1, none⟩) (Nat.le_refl _) (.string (tx m'))).setCell (p := ⟨w.heap.size, 2, none⟩) (Nat.le_refl _) (.int .i64 k')).setCell (p := ⟨w.heap.size, 3, none⟩) (Nat.le_refl _) (.slice ao5 z'.length c5))
      have h5 := HR5.out
      have HPF := hid ((((HP5.out.store (k := 0) (u := .int .i64 p') h5).store (k := 1) (u := .string (tx m')) (rob_1 h5 p')).store (k := 2) (u := .int .i64 k') (rob_2 (rob_1 h5 p') _)).store (k := 3) (u := .slice ao5 z'.length c5) (rob_3 (rob_2 (rob_1 h5 p') _) k'))
      clear hB6 h5
      go_wp2
      refine bodyPost_ret (v := .tuple #[.agg #[.int .i64 p', .string (tx m'), .int .i64 k', .slice ao5 z'.length c5], .bool true, .int .i64 0]) (by simp [results, Tryz.results30, go_sem, n0, n1, n2, n3]) rfl ⟨HBF.out, Or.inr (Or.inr ⟨HH.out, j, _, _, _, _, HMJ.out.1, HMJ.out.2, rfl, HPF.out.mono HSZ.out⟩)⟩

def LookPost (w : World) (W : Int) (L : List Raw) (h : List UInt8) (e : Ending) (w' : World) : Prop :=
  Below w.heap.size w w' ∧ ((headB W h = false ∧ e = .returned (.tuple #[.agg #[.int .i64 0, .slice none 0 0], .int .i64 21])) ∨
    (headB W h = true ∧ metN L h < 0 ∧ e = .returned (.tuple #[.agg #[.int .i64 1, .slice none 0 0], .int .i64 0])) ∨
    (headB W h = true ∧ ∃ (j : Nat) (r : Raw) (ao : Option Addr) (n c : Nat), L[j]? = some r ∧ metN L h = (j : Int) ∧ e = .returned (.tuple #[.agg #[.int .i64 r.kind, .slice ao n c], .int .i64 0]) ∧ Ported w' w.heap.size (.slice ao n c) r.ports))

set_option maxRecDepth 20000 in
set_option maxHeartbeats 2000000 in
theorem Lookup_any {w : World} {Bp tb : Nat} {W : Int} {L : List Raw} {h : List UInt8} (hF : FTab w Bp tb W L) :
    Calls Tryz.prog 16 #[.pointer (some ⟨tb, 0, none⟩), .string (tx h)] w fun e w' => LookPost w W L h e w' := by
  have HB0 := hid (show Below w.heap.size w (w.alloc (aob 0 (.slice none 0 0))) from (Below.refl _ _).alloc (Nat.le_refl _) _)
  have HA0 := hid (new_0 w (aob 0 (.slice none 0 0)))
  have HM := hid (Meets_any (h := h) (hF.on HB0.out))
  clear hF
  go_enter Tryz.func16, Tryz.ntmps16
  go_wp2_with fail
  refine HM.out.mono ?_
  rintro en w2 ⟨hb2, (⟨hh, rfl⟩ | ⟨hh, hm, rfl⟩ | ⟨hh, j, r, ao, n, c, hj, hm, rfl, hp⟩)⟩
  · have B2 := hid (below_2 HB0.out hb2)
    have HH := hid hh
    have hA2 := below_block hb2 HA0.out (lt_of_block HA0.out)
    have HA2 := hid hA2
    have a0 : ∀ o, (w2.alloc o).cell? ⟨w.heap.size, 0, none⟩ = some (.int .i64 0) := fun o => by rw [cell_at (new_old _ o hA2)]; rfl
    have a1 : ∀ o, (w2.alloc o).cell? ⟨w.heap.size, 1, none⟩ = some (.slice none 0 0) := fun o => by rw [cell_at (new_old _ o hA2)]; rfl
    have g0 : ∀ o, (w2.alloc o).frozen? ⟨w.heap.size, 0, none⟩ = false := fun o => free_of (new_old _ o hA2)
    have g1 : ∀ o, (w2.alloc o).frozen? ⟨w.heap.size, 1, none⟩ = false := fun o => free_of (new_old _ o hA2)
    have hA3 := block_set (o := 1) (.slice none 0 0) (block_set (o := 0) (.int .i64 0) (new_old _ (rob 0 (tx []) 0 (.slice none 0 0)) hA2))
    have n0 := cell_at (o := 0) hA3
    have n1 := cell_at (o := 1) hA3
    simp at n0 n1
    have HBF := hid (((B2.out.alloc B2.out.size (rob 0 (tx []) 0 (.slice none 0 0))).setCell (p := ⟨w.heap.size, 0, none⟩) (Nat.le_refl _) (.int .i64 0)).setCell (p := ⟨w.heap.size, 1, none⟩) (Nat.le_refl _) (.slice none 0 0))
    clear hb2 hh hA2 hA3
    go_wp2
    refine bodyPost_ret (v := .tuple #[.agg #[.int .i64 0, .slice none 0 0], .int .i64 21]) (by simp [results, Tryz.results16, go_sem, n0, n1]) rfl ⟨HBF.out, Or.inl ⟨HH.out, rfl⟩⟩
  · have B2 := hid (below_2 HB0.out hb2)
    have HH := hid (And.intro hh hm)
    have hA2 := below_block hb2 HA0.out (lt_of_block HA0.out)
    have a0 : ∀ o, (w2.alloc o).cell? ⟨w.heap.size, 0, none⟩ = some (.int .i64 0) := fun o => by rw [cell_at (new_old _ o hA2)]; rfl
    have a1 : ∀ o, (w2.alloc o).cell? ⟨w.heap.size, 1, none⟩ = some (.slice none 0 0) := fun o => by rw [cell_at (new_old _ o hA2)]; rfl
    have g0 : ∀ o, (w2.alloc o).frozen? ⟨w.heap.size, 0, none⟩ = false := fun o => free_of (new_old _ o hA2)
    have g1 : ∀ o, (w2.alloc o).frozen? ⟨w.heap.size, 1, none⟩ = false := fun o => free_of (new_old _ o hA2)
    have hA3 := block_set (o := 1) (.slice none 0 0) (block_set (o := 0) (.int .i64 1) (new_old _ (rob 0 (tx []) 0 (.slice none 0 0)) hA2))
    have n0 := cell_at (o := 0) hA3
    have n1 := cell_at (o := 1) hA3
    simp at n0 n1
    have HBF := hid (((B2.out.alloc B2.out.size (rob 0 (tx []) 0 (.slice none 0 0))).setCell (p := ⟨w.heap.size, 0, none⟩) (Nat.le_refl _) (.int .i64 1)).setCell (p := ⟨w.heap.size, 1, none⟩) (Nat.le_refl _) (.slice none 0 0))
    clear hb2 hh hm hA2 hA3
    go_wp2
    refine bodyPost_ret (v := .tuple #[.agg #[.int .i64 1, .slice none 0 0], .int .i64 0]) (by simp [results, Tryz.results16, go_sem, n0, n1]) rfl ⟨HBF.out, Or.inr (Or.inl ⟨HH.out.1, HH.out.2, rfl⟩)⟩
  · have B2 := hid (below_2 HB0.out hb2)
    have HH := hid (And.intro hh (And.intro hj hm))
    have HP := hid hp
    have hA2 := below_block hb2 HA0.out (lt_of_block HA0.out)
    have HA2 := hid hA2
    obtain ⟨p', m', k', z'⟩ := r
    simp only at HP
    have a0 : ∀ o, (w2.alloc o).cell? ⟨w.heap.size, 0, none⟩ = some (.int .i64 0) := fun o => by rw [cell_at (new_old _ o hA2)]; rfl
    have a1 : ∀ o, (w2.alloc o).cell? ⟨w.heap.size, 1, none⟩ = some (.slice none 0 0) := fun o => by rw [cell_at (new_old _ o hA2)]; rfl
    have g0 : ∀ o, (w2.alloc o).frozen? ⟨w.heap.size, 0, none⟩ = false := fun o => free_of (new_old _ o hA2)
    have g1 : ∀ o, (w2.alloc o).frozen? ⟨w.heap.size, 1, none⟩ = false := fun o => free_of (new_old _ o hA2)
    have hA3 := block_set (o := 1) (.slice ao n c) (block_set (o := 0) (.int .i64 k') (new_old _ (rob p' (tx m') k' (.slice ao n c)) hA2))
    have n0 := cell_at (o := 0) hA3
    have n1 := cell_at (o := 1) hA3
    simp at n0 n1
    have HBF := hid (((B2.out.alloc B2.out.size (rob p' (tx m') k' (.slice ao n c))).setCell (p := ⟨w.heap.size, 0, none⟩) (Nat.le_refl _) (.int .i64 k')).setCell (p := ⟨w.heap.size, 1, none⟩) (Nat.le_refl _) (.slice ao n c))
    have HPF := hid (show Ported (((w2.alloc (rob p' (tx m') k' (.slice ao n c))).setCell ⟨w.heap.size, 0, none⟩ (.int .i64 k')).setCell ⟨w.heap.size, 1, none⟩ (.slice ao n c)) w.heap.size (.slice ao n c) z' from by
      obtain ⟨ao', c', e1, e2, q0 | ⟨b, e3, e4, cs', e5, e6⟩⟩ := (HP.out.mono (Nat.le_of_lt (by simp : w.heap.size < (w.alloc (aob 0 (.slice none 0 0))).heap.size))).on ((Below.refl _ w2).alloc (Nat.le_refl _) (rob p' (tx m') k' (.slice ao n c)))
      · exact ⟨ao', c', e1, e2, Or.inl q0⟩
      · refine ⟨ao', c', e1, e2, Or.inr ⟨b, e3, e4, cs', ?_, e6⟩⟩
        have hne : b ≠ w.heap.size := ne_type e5 (new_old _ _ HA2.out) (by decide)
        exact block_other _ (block_other _ e5 hne) hne)
    clear hb2 hh hm hj hp hA2 hA3
    go_wp2
    refine bodyPost_ret (v := .tuple #[.agg #[.int .i64 k', .slice ao n c], .int .i64 0]) (by simp [results, Tryz.results16, go_sem, n0, n1]) rfl ⟨HBF.out, Or.inr (Or.inr ⟨HH.out.1, j, _, _, _, _, HH.out.2.1, HH.out.2.2, rfl, HPF.out⟩)⟩

set_option maxRecDepth 4000 in
set_option maxHeartbeats 1000000 in
theorem Len_any {w : World} {Bp tb : Nat} {W : Int} {L : List Raw} (hF : FTab w Bp tb W L) :
    Calls Tryz.prog 17 #[.pointer (some ⟨tb, 0, none⟩)] w fun e w' => e = .returned (.int .i64 (L.length : Int)) ∧ w' = w := by
  obtain ⟨v, ps, ht, rfl⟩ := hF.ex
  obtain ⟨lo, lc, hv, _⟩ := ht.list.form
  subst hv
  have t1 : w.cell? ⟨tb, 1, none⟩ = some (.slice lo ps.length lc) := by rw [cell_at ht.blk]; rfl
  have HMD := hid (made_yes ht.blk)
  rw [List.length_map]
  clear ht hF
  go_enter Tryz.func17, Tryz.ntmps17
  go_wp2_with fail
  refine HMD.out.mono ?_
  rintro en w1 ⟨rfl, hw1⟩
  subst hw1
  go_wp2
  go_ret
  exact ⟨rfl, rfl⟩
end Go.Proofs.YtemmhingmeinjaaGreatDoor
namespace Go.Proofs.YtemmhingmeinjaaGreatDoor
open Go.RowKit

def awA : Raw := ⟨5, [49, 120], 3, [[112]]⟩
def awB : Raw := ⟨9, [49, 49], 2, []⟩
theorem aw_run : runN 2 [] [(1, awA), (1, awB)] 0 = .ok [awB, awA] := by kernel_rfl
theorem aw_h1 : headB 2 [49, 49] = true := by kernel_rfl
theorem aw_h2 : headB 2 [49, 48] = true := by kernel_rfl
theorem aw_h3 : headB 2 [48, 48] = true := by kernel_rfl
theorem aw_m1 : metN [awB, awA] [49, 49] = 0 := by kernel_rfl
theorem aw_m2 : metN [awB, awA] [49, 48] = 1 := by kernel_rfl
theorem aw_m3 : metN [awB, awA] [48, 48] = -1 := by kernel_rfl
abbrev awCs (g1 : Nat) : List (Int × Raw × Value) := [(1, awA, .slice (some ⟨g1, 0, none⟩) 1 1), (1, awB, .slice none 0 0)]
theorem aw_view {w1 X : World} (hX : X = (w1.alloc (.cells #[.string (tx [112])] 9)).alloc (.cells #[.int .i64 1, .int .i64 5, .string (tx [49, 120]), .int .i64 3, .slice (some ⟨w1.heap.size, 0, none⟩) 1 1, .int .i64 1, .int .i64 9, .string (tx [49, 49]), .int .i64 2, .slice none 0 0] 53)) : ChView X (w1.heap.size + 1) 0 (awCs w1.heap.size) := by
  have h1 : X.heap[w1.heap.size + 1]? = some (.cells #[.int .i64 1, .int .i64 5, .string (tx [49, 120]), .int .i64 3, .slice (some ⟨w1.heap.size, 0, none⟩) 1 1, .int .i64 1, .int .i64 9, .string (tx [49, 49]), .int .i64 2, .slice none 0 0] 53) := by rw [hX]; exact new_1 _ _ _
  have h0 : X.heap[w1.heap.size]? = some (.cells #[.string (tx [112])] 9) := by rw [hX]; exact new_old _ _ (new_0 _ _)
  refine ⟨lt_of_block h1, fun i u hi => ?_, fun u hu => ?_⟩
  · have hlt : i < 2 := (List.getElem?_eq_some_iff.1 hi).1
    have h2 : i = 0 ∨ i = 1 := by omega
    rcases h2 with rfl | rfl
    · have : (1, awA, Value.slice (some ⟨w1.heap.size, 0, none⟩) 1 1) = u := by simpa using hi
      subst this
      refine ⟨?_, ?_, ?_, ?_, ?_⟩ <;> · rw [cell_at h1]; rfl
    · have : (1, awB, Value.slice none 0 0) = u := by simpa using hi
      subst this
      refine ⟨?_, ?_, ?_, ?_, ?_⟩ <;> · rw [cell_at h1]; rfl
  · simp only [awCs, List.mem_cons, List.not_mem_nil, or_false] at hu
    rcases hu with rfl | rfl
    · refine ⟨⟨some ⟨w1.heap.size, 0, none⟩, 1, rfl, Or.inr ⟨w1.heap.size, 0, rfl, lt_of_block h0, fun i hi => ?_⟩⟩, fun p hp => ?_⟩
      · have : i = 0 := by have : i < 1 := hi; omega
        subst this
        rw [cell_at h0]; rfl
      · have : p = [112] := by simpa [awA] using hp
        rw [this]; unfold maxLen; simp
    · exact ⟨Txs.nil _ _ _, fun p hp => by simp [awB] at hp⟩

set_option maxRecDepth 20000 in
set_option maxHeartbeats 4000000 in
theorem fawake (w : World) : Calls Tryz.prog 5 #[] w fun e w' => e = .returned (.bool true) ∧ Below w.heap.size w w' := by
  have HNW := hid (New_good (W := 2) (w := w) (by decide))
  have hpn : ∀ (W : World) (a : Addr), (binOp .eql 23 (.pointer (some a)) (.pointer none)).run Tryz.prog W = .ok (.bool false) W := fun W a => by
    have h : ∀ d : Nat, (Op.equalIn (d + 1) 23 (.pointer (some a)) (.pointer none)).run Tryz.prog W = .ok false W := fun d => by
      simp [Op.equalIn, run_underlying Tryz.underlying23, sizeOf, typeInfo]
    simp only [binOp]
    simp [Op.equal, Op.maxDepth, h 9999]
  go_enter Tryz.func5, Tryz.ntmps5
  go_wp2_with fail
  refine HNW.out.mono ?_
  rintro en w1 ⟨rfl, h1⟩
  have HF1 := hid h1.out.1
  have B1 := hid h1.out.2
  clear h1
  obtain ⟨X, hX⟩ : ∃ X, X = (w1.alloc (.cells #[.string (tx [112])] 9)).alloc (.cells #[.int .i64 1, .int .i64 5, .string (tx [49, 120]), .int .i64 3, .slice (some ⟨w1.heap.size, 0, none⟩) 1 1, .int .i64 1, .int .i64 9, .string (tx [49, 49]), .int .i64 2, .slice none 0 0] 53) := ⟨_, rfl⟩
  have HBX := hid (show Below w1.heap.size w1 X by rw [hX]; exact ((Below.refl _ _).alloc (Nat.le_refl _) _).alloc (by simp) _)
  have HDO := hid (Do_any (cap := 2) (n := 2) (cs := awCs w1.heap.size) (HF1.out.on HBX.out) (Or.inr ⟨w1.heap.size + 1, 0, rfl, aw_view hX⟩) rfl (by decide))
  go_wp2_with fail
  rw [← hX]
  refine HDO.out.mono ?_
  rintro en w2 ⟨hg2, (⟨L', hr, rfl, hF2⟩ | ⟨i, er, hr, _, rfl, _⟩)⟩
  rotate_left
  · have : runN 2 [] [(1, awA), (1, awB)] 0 = .error (i, er) := hr
    rw [aw_run] at this
    cases this
  have hL : [awB, awA] = L' := by
    have : runN 2 [] [(1, awA), (1, awB)] 0 = .ok L' := hr
    rw [aw_run] at this
    injection this
  subst hL
  have HF2 := hid hF2
  have B2 := hid (show Below w.heap.size w w2 from (below_2 B1.out HBX.out).grown hg2 (below_2 B1.out HBX.out).size (fun b hb => by cases hb; exact Nat.le_refl _))
  clear hg2 hr hF2 hX
  have HL1 := hid (Lookup_any (h := [49, 49]) HF2.out)
  go_wp2_with fail
  refine HL1.out.mono ?_
  rintro en w3 ⟨hb3, (⟨hh, rfl⟩ | ⟨hh, hm, rfl⟩ | ⟨hh, j, r, ao, n, c, hj, hm, rfl, hp⟩)⟩
  · rw [aw_h1] at hh; cases hh
  · rw [aw_m1] at hm; exact absurd hm (by decide)
  have hj0 : j = 0 := by rw [aw_m1] at hm; omega
  subst hj0
  have hrr : awB = r := by simpa using hj
  subst hrr
  have HF3 := hid (HF2.out.on hb3)
  have B3 := hid (below_2 B2.out hb3)
  clear hb3 hh hj hm hp
  have HBa := hid (show Below w3.heap.size w3 (w3.alloc (aob 2 (.slice ao n c))) from (Below.refl _ _).alloc (Nat.le_refl _) _)
  have HA3 := hid (new_0 w3 (aob 2 (.slice ao n c)))
  have HL2 := hid (Lookup_any (h := [49, 48]) (HF3.out.on HBa.out))
  go_wp2_with fail
  refine HL2.out.mono ?_
  rintro en w4 ⟨hb4, (⟨hh, rfl⟩ | ⟨hh, hm, rfl⟩ | ⟨hh, j, r, ao4, n4, c4, hj, hm, rfl, hp⟩)⟩
  · rw [aw_h2] at hh; cases hh
  · rw [aw_m2] at hm; exact absurd hm (by decide)
  have hj0 : j = 1 := by rw [aw_m2] at hm; omega
  subst hj0
  have hrr : awA = r := by simpa using hj
  subst hrr
  have HF4 := hid ((HF3.out.on HBa.out).on hb4)
  have B4 := hid (below_2 (below_2 B3.out HBa.out) hb4)
  have HA4 := hid (below_block hb4 HA3.out (lt_of_block HA3.out))
  clear hb4 hh hj hm hp
  have HBb := hid (show Below w4.heap.size w4 (w4.alloc (aob 3 (.slice ao4 n4 c4))) from (Below.refl _ _).alloc (Nat.le_refl _) _)
  have HC4 := hid (new_0 w4 (aob 3 (.slice ao4 n4 c4)))
  have HL3 := hid (Lookup_any (h := [48, 48]) (HF4.out.on HBb.out))
  go_wp2_with fail
  refine HL3.out.mono ?_
  rintro en w5 ⟨hb5, (⟨hh, rfl⟩ | ⟨hh, hm, rfl⟩ | ⟨hh, j, r, ao5, n5, c5, hj, hm, rfl, hp⟩)⟩
  · rw [aw_h3] at hh; cases hh
  rotate_left
  · rw [aw_m3] at hm; omega
  have HF5 := hid ((HF4.out.on HBb.out).on hb5)
  have B5 := hid (below_2 (below_2 B4.out HBb.out) hb5)
  have HBc := hid (show Below w5.heap.size w5 (w5.alloc (aob 1 (.slice none 0 0))) from (Below.refl _ _).alloc (Nat.le_refl _) _)
  have HLN := hid (Len_any (HF5.out.on HBc.out))
  have hA5 := below_block HBc.out (below_block hb5 (below_block HBb.out HA4.out (lt_of_block HA4.out)) (by have := lt_of_block HA4.out; simp; omega)) (lt_of_block (below_block hb5 (below_block HBb.out HA4.out (lt_of_block HA4.out)) (by have := lt_of_block HA4.out; simp; omega)))
  have hC5 := below_block HBc.out (below_block hb5 HC4.out (lt_of_block HC4.out)) (lt_of_block (below_block hb5 HC4.out (lt_of_block HC4.out)))
  have x3 : (w5.alloc (aob 1 (.slice none 0 0))).cell? ⟨w3.heap.size, 0, none⟩ = some (.int .i64 2) := by rw [cell_at hA5]; rfl
  have x4 : (w5.alloc (aob 1 (.slice none 0 0))).cell? ⟨w4.heap.size, 0, none⟩ = some (.int .i64 3) := by rw [cell_at hC5]; rfl
  have x5 : (w5.alloc (aob 1 (.slice none 0 0))).cell? ⟨w5.heap.size, 0, none⟩ = some (.int .i64 1) := by rw [cell_at (new_0 w5 _)]; rfl
  have BF := hid (below_2 B5.out HBc.out)
  clear hb5 hh hm hA5 hC5
  go_wp2_with (go_at_call 17; refine HLN.out.mono ?_; rintro e w9 ⟨rfl, hw9⟩; subst hw9)
  go_ret
  exact ⟨rfl, BF.out⟩
end Go.Proofs.YtemmhingmeinjaaGreatDoor
