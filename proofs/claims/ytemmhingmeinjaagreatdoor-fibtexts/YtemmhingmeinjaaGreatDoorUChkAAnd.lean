/-
  The text of rules that may be.
-/
import Derived.Test.YtemmhingmeinjaaGreatDoorUWordsAnd
namespace Go.Proofs.YtemmhingmeinjaaGreatDoor
open Go.RowKit
open Wo (Wd)

structure okRule (width p : Int) (m : List UInt8) (k : Int) (ps : List (List UInt8)) : Prop where
  wide : 1 ≤ width ∧ width ≤ 128
  prio : 0 ≤ p ∧ p ≤ 2147483647
  cube : Cub.Cu.right m = true
  len : (m.length : Int) = width
  act : okAct k ps
def OkNo (ok : Prop) (w : World) (en : Ending) (w' : World) : Prop := ∃ e : Int, en = .returned (.int .i64 e) ∧ (e = 0 ↔ ok) ∧ Below w.heap.size w w'
theorem OkNo.no {ok : Prop} {w w' : World} {e : Int} (he : e ≠ 0) (h : ¬ ok) (hb : Below w.heap.size w w') : OkNo ok w (.returned (.int .i64 e)) w' := ⟨e, rfl, ⟨fun q => absurd q he, fun q => absurd q h⟩, hb⟩
theorem OkNo.yes {ok : Prop} {w w' : World} (h : ok) (hb : Below w.heap.size w w') : OkNo ok w (.returned (.int .i64 0)) w' := ⟨0, rfl, ⟨fun _ => h, fun _ => rfl⟩, hb⟩

set_option maxRecDepth 4000 in
set_option maxHeartbeats 2000000 in
theorem Check_any {w : World} {width p k : Int} {m : List UInt8} {v : Value} {ps : List (List UInt8)} (ht : Txs w v ps) (hz : ∀ p ∈ ps, p.length ≤ maxLen) :
    Calls Tryz.prog 32 #[.agg #[.int .i64 p, .string (tx m), .int .i64 k, v], .int .i64 width] w fun en w' => OkNo (okRule width p m k ps) w en w' := by
  have HT := hid ht
  obtain ⟨ao, cap, rfl, _⟩ := ht
  have HW := hid (isWidth_any width)
  by_cases hw : 1 ≤ width ∧ width ≤ 128
  case neg =>
    rw [decide_eq_false hw] at HW
    go_enter Tryz.func32, Tryz.ntmps32
    go_wp2_with fail
    refine (HW.out _).mono ?_
    rintro en w1 ⟨rfl, rfl⟩
    go_wp2
    go_ret
    exact OkNo.no (by decide) (fun q => hw q.wide) ((Below.refl _ _).alloc (Nat.le_refl _) _)
  rw [decide_eq_true hw] at HW
  by_cases hp0 : p < 0
  · go_enter Tryz.func32, Tryz.ntmps32
    go_wp2_with fail
    refine (HW.out _).mono ?_
    rintro en w1 ⟨rfl, rfl⟩
    go_wp2
    go_ret
    exact OkNo.no (by decide) (fun q => by have := q.prio; omega) ((Below.refl _ _).alloc (Nat.le_refl _) _)
  by_cases hp1 : 2147483647 < p
  · go_enter Tryz.func32, Tryz.ntmps32
    go_wp2_with fail
    refine (HW.out _).mono ?_
    rintro en w1 ⟨rfl, rfl⟩
    go_wp2
    go_ret
    exact OkNo.no (by decide) (fun q => by have := q.prio; omega) ((Below.refl _ _).alloc (Nat.le_refl _) _)
  have HCK := hid (fun w' => uCheck m w')
  by_cases hm : Cub.Cu.right m = true
  case neg =>
    rw [if_neg hm] at HCK
    have HM := hid hm
    clear hm
    go_enter Tryz.func32, Tryz.ntmps32
    go_wp2_with fail
    refine (HW.out _).mono ?_
    rintro en w1 ⟨rfl, rfl⟩
    go_wp2_with fail
    refine (HCK.out _).mono ?_
    rintro en w2 ⟨rfl, hb2⟩
    have HB2 := hid (show Below w.heap.size w w2 from ((Below.refl _ _).alloc (Nat.le_refl _) _).trans (hb2.mono (by simp)))
    clear hb2
    go_wp2
    go_ret
    exact OkNo.no (by decide) (fun q => HM.out q.cube) HB2.out
  rw [if_pos hm] at HCK
  have HM := hid hm
  have HWW := hid hw
  clear hm hw
  by_cases hl : (m.length : Int) = width
  case neg =>
    have hne : ((m.length : Int) == width) = false := by rw [beq_eq_false_iff_ne]; exact hl
    have HL := hid hl
    clear hl
    go_enter Tryz.func32, Tryz.ntmps32
    go_wp2_with fail
    refine (HW.out _).mono ?_
    rintro en w1 ⟨rfl, rfl⟩
    go_wp2_with fail
    refine (HCK.out _).mono ?_
    rintro en w2 ⟨rfl, hb2⟩
    have OB := below_block hb2 (new_0 w (rob p (tx m) k (.slice ao ps.length cap))) (by simp)
    obtain ⟨d0, d1, d2, d3, _, _, _, _⟩ := rob_cells OB
    have HB2 := hid (show Below w.heap.size w w2 from ((Below.refl _ _).alloc (Nat.le_refl _) _).trans (hb2.mono (by simp)))
    clear OB hb2
    go_wp2
    go_ret
    exact OkNo.no (by decide) (fun q => HL.out q.len) HB2.out
  subst hl
  have HMB := hid (fun (w' : World) (hb : Below w.heap.size w w') => mayBe_any (k := k) (HT.out.below hb) hz)
  have hnn : ((m.length : Int) == (m.length : Int)) = true := by simp
  clear hz
  go_enter Tryz.func32, Tryz.ntmps32
  go_wp2_with fail
  refine (HW.out _).mono ?_
  rintro en w1 ⟨rfl, rfl⟩
  go_wp2_with fail
  refine (HCK.out _).mono ?_
  rintro en w2 ⟨rfl, hb2⟩
  have OB := below_block hb2 (new_0 w (rob p (tx m) k (.slice ao ps.length cap))) (by simp)
  obtain ⟨d0, d1, d2, d3, _, _, _, _⟩ := rob_cells OB
  have HB2 := hid (show Below w.heap.size w w2 from ((Below.refl _ _).alloc (Nat.le_refl _) _).trans (hb2.mono (by simp)))
  clear OB hb2
  go_wp2_with fail
  refine (HMB.out _ HB2.out).mono ?_
  rintro en w3 ⟨b, rfl, hb, hb3⟩
  have HB3 := hid (HB2.out.trans (hb3.mono HB2.out.size))
  have HI := hid hb
  clear hb hb3
  cases b with
  | true =>
    go_wp2
    go_ret
    exact OkNo.yes ⟨HWW.out, by omega, HM.out, rfl, HI.out.1 (by first | rfl | trivial)⟩ HB3.out
  | false =>
    go_wp2
    go_ret
    exact OkNo.no (by decide) (fun q => absurd (HI.out.2 q.act) (by decide)) HB3.out
end Go.Proofs.YtemmhingmeinjaaGreatDoor
namespace Go.Proofs.YtemmhingmeinjaaGreatDoor
open Go.RowKit
open Wo (Wd)

namespace Ru
def kwG (k : Nat) : List UInt8 := if k = 1 then [100, 114, 111, 112] else if k = 2 then [100, 101, 108, 105, 118, 101, 114] else if k = 3 then [97, 108, 108] else [97, 110, 121]
theorem kindN_kw {k : Nat} (h : 1 ≤ k ∧ k ≤ 4) : kindN (kwG k) = k := by
  rcases (by omega : k = 1 ∨ k = 2 ∨ k = 3 ∨ k = 4) with rfl | rfl | rfl | rfl <;> decide
def seqT : List (List UInt8) → List (List UInt8)
  | [] => [[41]]
  | q :: r => [44] :: q :: seqT r
def tailW : List (List UInt8) → List (List UInt8)
  | [] => []
  | p :: r => [40] :: p :: seqT r
def lineW (x : Rl) : List (List UInt8) := ruleT :: Lib.decDigits x.prio :: x.mat :: kwG x.kind :: tailW x.ports
structure OkRl (width : Nat) (x : Rl) : Prop where
  prio : x.prio ≤ 2147483647
  cube : Cub.Cu.right x.mat = true
  len : x.mat.length = width
  act : ((x.kind = 1 ∨ x.kind = 2) ∧ x.ports = []) ∨ ((x.kind = 3 ∨ x.kind = 4) ∧ okPorts x.ports)

theorem pts_back (e : Wd) (r : List (List UInt8)) : ∀ (p : List UInt8) (l : List Wd) (acc : List (List UInt8)), l.map (·.1) = p :: seqT r → (∀ q ∈ p :: r, Wo.nameB q = true) → ∃ v, pts e l acc = .ok (v, acc ++ p :: r, []) := by
  induction r with
  | nil =>
    intro p l acc hl hn
    match l, hl with
    | [w, v], hl =>
      simp only [List.map_cons, List.map_nil, seqT, List.cons.injEq, and_true] at hl
      obtain ⟨h1, h2⟩ := hl
      refine ⟨v, ?_⟩
      rw [pts, h1, h2, if_neg (by rw [hn p (by simp)]; decide), if_neg (by decide), if_pos rfl]
    | [], hl => cases hl
    | [w], hl => simp [seqT] at hl
    | w :: v :: u :: t, hl => simp [seqT] at hl
  | cons q r ih =>
    intro p l acc hl hn
    match l, hl with
    | w :: v :: t, hl =>
      simp only [List.map_cons, seqT, List.cons.injEq] at hl
      obtain ⟨h1, h2, h3⟩ := hl
      obtain ⟨v', hv⟩ := ih q t (acc ++ [p]) h3 (fun y hy => hn y (List.mem_cons_of_mem _ hy))
      refine ⟨v', ?_⟩
      rw [pts, h1, h2, if_neg (by rw [hn p (by simp)]; decide), if_pos rfl, hv]
      simp
    | [], hl => cases hl
    | [w], hl => simp [seqT] at hl

theorem ins_last {l : List (List UInt8)} {s : List UInt8} (h : ∀ a ∈ l, a < s) : ins l s = l ++ [s] := by
  induction l with
  | nil => rfl
  | cons a t ih =>
    rw [ins, if_neg (fun q => List.lt_irrefl _ (List.lt_trans q (h a (by simp)))), ih (fun b hb => h b (List.mem_cons_of_mem _ hb))]
    rfl
theorem nrm_rise {l : List (List UInt8)} (h : Rise l) : nrm l = l := by
  have key : ∀ r : List (List UInt8), Rise r.reverse → nrm r.reverse = r.reverse := by
    intro r
    induction r with
    | nil => intro _; rfl
    | cons s r ih =>
      intro h
      rw [List.reverse_cons] at h ⊢
      have h1 := List.pairwise_append.1 h
      rw [nrm_snoc, ih h1.1]
      have hs : ∀ a ∈ r.reverse, a < s := fun a ha => h1.2.2 a ha s (by simp)
      unfold put
      rw [if_neg (fun q => List.lt_irrefl _ (hs s q)), ins_last hs]
  have := key l.reverse (by rw [List.reverse_reverse]; exact h)
  rwa [List.reverse_reverse] at this

theorem rul_back {width : Nat} {x : Rl} {l : List Wd} (hx : OkRl width x) (hnum : Wo.numB (Lib.decDigits x.prio) = true ∧ Wo.numV (Lib.decDigits x.prio) = x.prio) (hl : l.map (·.1) = lineW x) : rul width l = .ok x := by
  match l, hl with
  | w0 :: w1 :: w2 :: w3 :: t, hl =>
    simp only [lineW, List.map_cons, List.cons.injEq] at hl
    obtain ⟨h0, h1, h2, h3, h4⟩ := hl
    have hact : ∀ e, act e (w3 :: t) = .ok (x.kind, x.ports, []) := by
      intro e
      have hk : 1 ≤ x.kind ∧ x.kind ≤ 4 := by rcases hx.act with ⟨h, _⟩ | ⟨h, _⟩ <;> omega
      have hkn : kindN (nx e (w3 :: t)).1 = x.kind := by rw [nx_cons, h3, kindN_kw hk]
      unfold act
      rw [if_neg (by rw [hkn]; omega)]
      rcases hx.act with ⟨h, hp⟩ | ⟨h, hp⟩
      · rw [if_pos (by rw [hkn]; omega), hkn]
        rw [hp] at h4 ⊢
        simp only [tailW, List.map_eq_nil_iff] at h4
        rw [h4]
        rfl
      · rw [if_neg (by rw [hkn]; omega), hkn]
        obtain ⟨hp1, hp2, hp3, hp4⟩ := hp
        obtain ⟨p, r, hpr⟩ : ∃ p r, x.ports = p :: r := by
          cases hq : x.ports with
          | nil => rw [hq] at hp1; simp at hp1
          | cons p r => exact ⟨p, r, rfl⟩
        have h5 := h4
        rw [hpr, tailW] at h5
        obtain ⟨v, t', rfl⟩ : ∃ v t', t = v :: t' := by
          cases t with
          | nil => cases h5
          | cons v t' => exact ⟨v, t', rfl⟩
        simp only [List.map_cons, List.cons.injEq] at h5
        obtain ⟨g1, g2⟩ := h5
        obtain ⟨v', hv⟩ := pts_back e r p t' [] g2 (by rw [← hpr]; exact hp3)
        have : prt e (w3 :: v :: t').tail = .ok (x.ports, []) := by
          show prt e (v :: t') = _
          unfold prt
          rw [if_neg (by show ¬ v.1 ≠ [40]; rw [g1]; simp), show pts e (v :: t').tail [] = _ from hv]
          show (if 64 < (nrm ([] ++ p :: r)).length then _ else _) = _
          rw [List.nil_append, ← hpr, nrm_rise hp4, if_neg (by omega)]
        rw [this]
    unfold rul
    rw [if_neg (by show ¬ w0.1 ≠ ruleT; rw [h0]; simp), if_neg (by show ¬ Wo.numB w1.1 = false; rw [h1, hnum.1]; decide), if_neg (by show ¬ Cub.Cu.right w2.1 = false; rw [h2, hx.cube]; decide), if_neg (by show ¬ w2.1.length ≠ width; rw [h2, hx.len]; simp),
      show act (endW (w0 :: w1 :: w2 :: w3 :: t)) (w0 :: w1 :: w2 :: w3 :: t).tail.tail.tail = _ from hact _]
    show (if (endW (w0 :: w1 :: w2 :: w3 :: t)).1 ≠ [] then _ else Except.ok (⟨Wo.numV w1.1, w2.1, x.kind, x.ports⟩ : Rl)) = _
    rw [if_neg (by rw [endW_text]; simp), h1, h2, hnum.2]
  | [], hl => simp [lineW] at hl
  | [_], hl => simp [lineW] at hl
  | [_, _], hl => simp [lineW] at hl
  | [_, _, _], hl => simp [lineW] at hl
end Ru
end Go.Proofs.YtemmhingmeinjaaGreatDoor
namespace Go.Proofs.YtemmhingmeinjaaGreatDoor
open Go.RowKit
open Wo (Wd)

namespace Ru
theorem digit_nat {u : Nat} (h : u < 10) : (UInt8.ofNat (48 + u)).toNat = 48 + u := by
  rw [UInt8.toNat_ofNat']
  omega
theorem digits_facts (n : Nat) : Lib.decDigits n ≠ [] ∧ Wo.allD (Lib.decDigits n) = true ∧ Wo.decN (Lib.decDigits n) = n ∧ (1 ≤ n → ((Lib.decDigits n).headD 0).toNat ≠ 48) := by
  induction n using Nat.strongRecOn with
  | _ n ih =>
    by_cases h : n < 10
    · have e : Lib.decDigits n = [UInt8.ofNat (48 + n)] := by rw [Lib.decDigits, dif_pos h]
      rw [e]
      refine ⟨by simp, ?_, ?_, fun h1 => ?_⟩
      · simp only [Wo.allD, List.all_cons, List.all_nil, Bool.and_true, Wo.dg, digit_nat h, decide_eq_true_eq]; omega
      · show Wo.decF 0 _ = n
        unfold Wo.decF; rw [digit_nat h]; omega
      · show (UInt8.ofNat (48 + n)).toNat ≠ 48
        rw [digit_nat h]; omega
    · have e : Lib.decDigits n = Lib.decDigits (n / 10) ++ [UInt8.ofNat (48 + n % 10)] := by rw [Lib.decDigits, dif_neg h]
      obtain ⟨i1, i2, i3, i4⟩ := ih (n / 10) (by omega)
      rw [e]
      refine ⟨by simp, ?_, ?_, fun _ => ?_⟩
      · unfold Wo.allD at i2 ⊢
        rw [List.all_append, i2]
        simp only [List.all_cons, List.all_nil, Bool.and_true, Bool.true_and, Wo.dg, digit_nat (show n % 10 < 10 by omega), decide_eq_true_eq]; omega
      · rw [Wo.decN_snoc, i3, digit_nat (by omega)]; omega
      · have := i4 (by omega)
        cases hd : Lib.decDigits (n / 10) with
        | nil => exact absurd hd i1
        | cons a t => rw [hd] at this; exact this
theorem digits_num {n : Nat} (h : n ≤ 2147483647) : Wo.numB (Lib.decDigits n) = true ∧ Wo.numV (Lib.decDigits n) = n := by
  obtain ⟨h1, h2, h3, h4⟩ := digits_facts n
  have hb : Wo.numB (Lib.decDigits n) = true := by
    unfold Wo.numB
    refine decide_eq_true ⟨h1, ?_, h2, by omega⟩
    by_cases q : 1 ≤ n
    · exact Or.inr (h4 q)
    · refine Or.inl ?_
      rw [show n = 0 by omega, Lib.decDigits, dif_pos (by omega)]
      simp
  exact ⟨hb, by unfold Wo.numV; rw [if_pos hb]; exact h3⟩

theorem isW_ltrs {l : List UInt8} (h0 : l ≠ []) (h : (l.all fun c => Wo.ltr c.toNat) = true) : Wo.isW l = true := by
  have hl := (Wo.lets_all l).2 h
  cases l with
  | nil => exact absurd rfl h0
  | cons x t =>
    have hx : Wo.ltr x.toNat = true := by rw [List.all_cons, Bool.and_eq_true] at h; exact h.1
    have ha : Wo.arr (x :: t) = false := by
      rw [Wo.lets_cons] at hl
      cases hq : Wo.arr (x :: t) with
      | false => rfl
      | true => rw [hq] at hl; simp at hl
    refine decide_eq_true ⟨h0, ?_⟩
    rw [Wo.fst_of_ltr hx ha]; exact hl
theorem isW_name {l : List UInt8} (h : Wo.nameB l = true) : Wo.isW l = true := by
  obtain ⟨h0, _, _, _, ha⟩ := of_decide_eq_true h
  exact isW_ltrs h0 ha
theorem isW_digits (n : Nat) : Wo.isW (Lib.decDigits n) = true := by
  obtain ⟨h1, h2, _, _⟩ := digits_facts n
  refine isW_ltrs h1 ?_
  unfold Wo.allD at h2
  rw [List.all_eq_true] at h2 ⊢
  intro c hc
  have := h2 c hc
  simp only [Wo.dg, Wo.ltr, decide_eq_true_eq] at this ⊢
  omega
theorem isW_cube {l : List UInt8} (h : Cub.Cu.right l = true) : Wo.isW l = true := by
  obtain ⟨h1, h2, _⟩ := Cub.Cu.right_all h
  refine isW_ltrs (fun q => by rw [q] at h2; simp at h2) ?_
  rw [List.all_eq_true] at h1 ⊢
  intro c hc
  have := h1 c hc
  simp only [Cub.Cu.sym, Bool.or_eq_true, beq_iff_eq] at this
  rcases this with (rfl | rfl) | rfl <;> decide
theorem isW_seq {r : List (List UInt8)} (h : ∀ q ∈ r, Wo.nameB q = true) : ∀ l ∈ seqT r, Wo.isW l = true := by
  induction r with
  | nil => intro l hl; rw [List.mem_singleton.1 hl]; decide
  | cons q r ih =>
    intro l hl
    rcases List.mem_cons.1 hl with rfl | hl
    · decide
    · rcases List.mem_cons.1 hl with rfl | hl
      · exact isW_name (h _ (by simp))
      · exact ih (fun y hy => h y (List.mem_cons_of_mem _ hy)) l hl
theorem isW_line {width : Nat} {x : Rl} (hx : OkRl width x) : ∀ l ∈ lineW x, Wo.isW l = true := by
  intro l hl
  have hk : 1 ≤ x.kind ∧ x.kind ≤ 4 := by rcases hx.act with ⟨h, _⟩ | ⟨h, _⟩ <;> omega
  rcases List.mem_cons.1 hl with rfl | hl
  · decide
  rcases List.mem_cons.1 hl with rfl | hl
  · exact isW_digits _
  rcases List.mem_cons.1 hl with rfl | hl
  · exact isW_cube hx.cube
  rcases List.mem_cons.1 hl with rfl | hl
  · rcases (by omega : x.kind = 1 ∨ x.kind = 2 ∨ x.kind = 3 ∨ x.kind = 4) with h | h | h | h <;> (rw [h]; decide)
  rcases hx.act with ⟨_, hp⟩ | ⟨_, hp⟩
  · rw [hp] at hl; exact absurd hl (by simp [tailW])
  · obtain ⟨_, _, h3, _⟩ := hp
    cases hq : x.ports with
    | nil => rw [hq] at hl; exact absurd hl (by simp [tailW])
    | cons p r =>
      rw [hq] at hl h3
      rcases List.mem_cons.1 hl with rfl | hl
      · decide
      · rcases List.mem_cons.1 hl with rfl | hl
        · exact isW_name (h3 _ (by simp))
        · exact isW_seq (fun y hy => h3 y (List.mem_cons_of_mem _ hy)) l hl

def printT (rs : List Rl) : List UInt8 := (rs.map fun x => Wo.sayL (lineW x) ++ [10]).flatten
theorem rd_print {width : Nat} (rs : List Rl) : ∀ n, (∀ x ∈ rs, OkRl width x) → (Wo.rd (Wo.lns (printT rs)) n).2 = none ∧ (Wo.rd (Wo.lns (printT rs)) n).1.map (fun l => l.map (·.1)) = rs.map lineW := by
  induction rs with
  | nil => intro n _; exact ⟨rfl, rfl⟩
  | cons x r ih =>
    intro n h
    have hw := isW_line (h x (by simp))
    obtain ⟨i1, i2⟩ := ih (n + 1) (fun y hy => h y (List.mem_cons_of_mem _ hy))
    have e : printT (x :: r) = Wo.sayL (lineW x) ++ 10 :: printT r := by simp [printT]
    have h10 : ∀ a ∈ Wo.sayL (lineW x), a.toNat ≠ 10 := by
      intro a ha
      rcases List.mem_append.1 ha with ha | ha
      · exact (Wo.isW_bytes (hw ruleT (by simp [lineW])) a ha).1
      · exact Wo.join_bytes _ _ (fun l hl => hw l (List.mem_cons_of_mem _ hl)) a ha
    obtain ⟨e1, e2⟩ := Wo.tk_join ruleT (lineW x).tail 1 (hw ruleT (by simp [lineW])) (fun l hl => hw l (List.mem_cons_of_mem _ hl))
    have e1' : (Wo.tk (Wo.sayL (lineW x)) 1).1.map (·.1) = lineW x := e1
    have e2' : (Wo.tk (Wo.sayL (lineW x)) 1).2 = none := e2
    have ne : (Wo.tk (Wo.sayL (lineW x)) 1).1 ≠ [] := by
      intro q
      rw [q] at e1'; simp [lineW] at e1'
    rw [e, Wo.lns_cut _ _ _ h10 (by decide), Wo.rd_some e2' ne]
    refine ⟨i1, ?_⟩
    simp only [List.map_cons]
    rw [i2]
    congr 1
    unfold Wo.wds
    rw [List.map_map]
    exact e1'

theorem rds_back {width : Nat} (rs : List Rl) : ∀ (ls : List (List Wd)) (acc : List Rl), ls.map (fun l => l.map (·.1)) = rs.map lineW → (∀ x ∈ rs, OkRl width x) → (acc ++ rs).Pairwise (fun a b => same a b = false) → acc.length + rs.length ≤ 4096 → rds width ls acc = .ok (acc ++ rs) := by
  induction rs with
  | nil =>
    intro ls acc hl _ _ _
    simp only [List.map_nil, List.map_eq_nil_iff] at hl
    rw [hl, rds, List.append_nil]
  | cons x r ih =>
    intro ls acc hl h hk hn
    obtain ⟨l, t, rfl⟩ : ∃ l t, ls = l :: t := by
      cases ls with
      | nil => cases hl
      | cons l t => exact ⟨l, t, rfl⟩
    simp only [List.map_cons, List.cons.injEq] at hl
    have hx := h x (by simp)
    rw [rds, rul_back hx (digits_num hx.prio) hl.1]
    have hany : (acc.any fun y => same y x) = false := by
      rw [List.any_eq_false]
      intro y hy
      have := (List.pairwise_append.1 hk).2.2 y hy x (by simp)
      rw [this]; decide
    show (if (acc.any fun y => same y x) = true then _ else if 4096 ≤ acc.length then _ else rds width t (acc ++ [x])) = _
    simp only [List.length_cons] at hn
    rw [if_neg (by rw [hany]; decide), if_neg (by omega), ih t (acc ++ [x]) hl.2 (fun y hy => h y (List.mem_cons_of_mem _ hy)) (by simpa using hk) (by simp; omega)]
    simp
theorem prs_back {width : Int} {rs : List Rl} (hw : 1 ≤ width ∧ width ≤ 128) (h : ∀ x ∈ rs, OkRl width.toNat x) (hk : rs.Pairwise (fun a b => same a b = false)) (hn : rs.length ≤ 4096) : prs (printT rs) width = .ok rs := by
  obtain ⟨h1, h2⟩ := rd_print rs 1 h
  unfold prs
  rw [if_neg (by omega), if_neg (by unfold Wo.err; rw [h1]; simp)]
  have : Wo.read (printT rs) = (Wo.rd (Wo.lns (printT rs)) 1).1 := by unfold Wo.read; rw [h1]
  rw [this]
  exact rds_back rs _ [] h2 h (by simpa using hk) (by simpa using hn)
end Ru
end Go.Proofs.YtemmhingmeinjaaGreatDoor
namespace Go.Proofs.YtemmhingmeinjaaGreatDoor
open Go.RowKit
open Wo (Wd)

def com (r : List (List UInt8)) : Nat → List (List UInt8)
  | 0 => []
  | j + 1 => com r j ++ [[44], r.getD j []]
theorem marks_com (p : List UInt8) (r : List (List UInt8)) (j : Nat) : marks (p :: r) (j + 1) = [40] :: p :: com r j := by
  induction j with
  | zero => rfl
  | succ j ih => rw [marks, ih, com, if_neg (by omega)]; rfl
theorem com_cons (q : List UInt8) (r : List (List UInt8)) (j : Nat) : com (q :: r) (j + 1) = [44] :: q :: com r j := by
  induction j with
  | zero => rfl
  | succ j ih => rw [com, ih, com]; rfl
theorem com_seq (r : List (List UInt8)) : com r r.length ++ [[41]] = Ru.seqT r := by
  induction r with
  | nil => rfl
  | cons q r ih => rw [List.length_cons, com_cons, Ru.seqT, ← ih]; rfl
theorem marks_tail {ps : List (List UInt8)} (h : 1 ≤ ps.length) : marks ps ps.length ++ [[41]] = Ru.tailW ps := by
  cases ps with
  | nil => simp at h
  | cons p r => rw [List.length_cons, marks_com, Ru.tailW, ← com_seq]; rfl
theorem seq_len (r : List (List UInt8)) : (Ru.seqT r).length = 2 * r.length + 1 := by
  induction r with
  | nil => rfl
  | cons q r ih => rw [Ru.seqT, List.length_cons, List.length_cons, ih, List.length_cons]; omega
theorem tailW_len {ps : List (List UInt8)} (h : ps.length ≤ 64) : (Ru.tailW ps).length ≤ 130 := by
  cases ps with
  | nil => simp [Ru.tailW]
  | cons p r => rw [Ru.tailW, List.length_cons, List.length_cons, seq_len]; rw [List.length_cons] at h; omega
def actW (k : Nat) (ps : List (List UInt8)) : List (List UInt8) := Ru.kwG k :: Ru.tailW ps

set_option maxRecDepth 20000 in
set_option maxHeartbeats 2000000 in
theorem actionWords_low {w : World} {ao : Option Addr} {cap k : Nat} (hk : k = 1 ∨ k = 2) :
    Calls Tryz.prog 97 #[.agg #[.int .i64 k, .slice ao 0 cap]] w fun en w' => ∃ v, en = .returned v ∧ w'.ownsRow w.heap.size 9 1 v 1 (svs [Ru.kwG k]) ∧ Below w.heap.size w w' := by
  have HKW := hid (show ∀ w', Calls Tryz.prog 133 #[.int .i64 k] w' fun e w'' => e = .returned (.string (tx (Ru.kwG k))) ∧ w'' = w' by
    rcases hk with rfl | rfl
    · exact kindWord_1
    · exact kindWord_2)
  obtain ⟨kw, hkw⟩ : ∃ kw, kw = Ru.kwG k := ⟨_, rfl⟩
  rw [← hkw] at HKW ⊢
  clear hkw hk
  go_enter Tryz.func97, Tryz.ntmps97
  go_wp2_with fail
  refine (HKW.out _).mono ?_
  rintro en w1 ⟨rfl, rfl⟩
  go_wp2
  go_ret
  refine ⟨_, rfl, ⟨rfl, Or.inr ⟨w.heap.size + 1, 1, #[.string (tx kw)], rfl, by omega, new_1 _ _ _, Nat.le_refl _, by decide, rfl, rfl⟩⟩, ?_⟩
  exact ((Below.refl _ _).alloc (Nat.le_refl _) _).alloc (by simp) _

theorem actionWords_any {w : World} {v : Value} {k : Nat} {ps : List (List UInt8)} (ht : Txs w v ps) (ha : okAct k ps) :
    Calls Tryz.prog 97 #[.agg #[.int .i64 k, v]] w fun en w' => ∃ v, en = .returned v ∧ w'.ownsRow w.heap.size 9 1 v (actW k ps).length (svs (actW k ps)) ∧ Below w.heap.size w w' := by
  obtain ⟨ao, cap, rfl, hr⟩ := ht
  rcases ha with ⟨hk, rfl⟩ | ⟨hk, hp⟩
  · exact actionWords_low (by omega)
  · rcases hr with rfl | ⟨g, o, rfl, hg, hc⟩
    · exact absurd hp.1 (by simp)
    · have e : actW k ps = kwT k :: (marks ps ps.length ++ [[41]]) := by
        rw [marks_tail hp.1]
        rcases (by omega : k = 3 ∨ k = 4) with rfl | rfl <;> rfl
      have hl : (actW k ps).length = 2 * ps.length + 2 := by rw [e]; simp [marks_len]
      rw [hl, e]
      exact actionWords_right (by omega) hp.1 hp.2.1 hg hc

set_option maxRecDepth 20000 in
set_option maxHeartbeats 2000000 in
theorem ruleWords_any {w : World} {v : Value} {p k : Nat} {m : List UInt8} {ps : List (List UInt8)} (ht : Txs w v ps) (ha : okAct k ps) (hp : p ≤ 2147483647) (hT : PowTab w) :
    Calls Tryz.prog 60 #[.agg #[.int .i64 p, .string (tx m), .int .i64 k, v]] w fun en w' => ∃ v, en = .returned v ∧ w'.ownsRow w.heap.size 9 1 v (3 + (actW k ps).length) (svs (Ru.ruleT :: Lib.decDigits p :: m :: actW k ps)) ∧ Below w.heap.size w w' := by
  obtain ⟨i0, hi, hz0, hz1, hz2⟩ := info_parts Tryz.infoStr
  have HI := hid hi
  have HZ0 := hid hz0
  have HZ1 := hid hz1
  have HZ2 := hid hz2
  clear hi hz0 hz1 hz2
  have HAW := hid (fun (w' : World) (hb : Below w.heap.size w w') => actionWords_any (k := k) (ht.below hb) ha)
  have HIT := hid (fun (w' : World) (h : PowTab w') => Itoa_any p hp h)
  have HPT := hid hT
  have hal : (actW k ps).length ≤ 131 := by
    have : ps.length ≤ 64 := by rcases ha with ⟨_, rfl⟩ | ⟨_, q⟩; simp; exact q.2.1
    unfold actW; rw [List.length_cons]; have := tailW_len this; omega
  have hap : 1 ≤ (actW k ps).length := by unfold actW; simp
  obtain ⟨d, hd⟩ : ∃ d, d = Lib.decDigits p := ⟨_, rfl⟩
  obtain ⟨aw, haw⟩ : ∃ aw, aw = actW k ps := ⟨_, rfl⟩
  obtain ⟨n, hn⟩ : ∃ n, n = aw.length := ⟨_, rfl⟩
  rw [← hd] at HIT ⊢
  rw [← haw] at HAW hal hap ⊢
  rw [← hn] at HAW hal hap ⊢
  obtain ⟨ao, cap, rfl, _⟩ := ht
  clear hd haw hn ha hT
  go_enter Tryz.func60, Tryz.ntmps60
  go_wp2_with fail
  have RB := hid (new_0 w (rob p (tx m) k (.slice ao ps.length cap)))
  have SH := hid (fun (W : World) (hb : W.heap[w.heap.size]? = some (rob p (tx m) k (.slice ao ps.length cap))) => (rob_cells hb))
  have BA0 := hid (show Below w.heap.size w (w.alloc (rob p (tx m) k (.slice ao ps.length cap))).drew from ((Below.refl _ _).alloc (Nat.le_refl _) _).drew)
  refine wp_region_held_drew (S := (fun w' => w'.cell? ⟨w.heap.size, 0, none⟩ = some (.int .i64 p) ∧ w'.cell? ⟨w.heap.size, 1, none⟩ = some (.string (tx m)) ∧ w'.cell? ⟨w.heap.size, 2, none⟩ = some (.int .i64 k) ∧ w'.cell? ⟨w.heap.size, 3, none⟩ = some (.slice ao ps.length cap))) (by kernel_rfl) (by go_keep) (fun hHeld => ?_)
  refine wpAnyH_take (i := 0) (v := .pointer (some ⟨w.heap.size, 0, none⟩)) rfl (by kernel_rfl) (by kernel_rfl) (by kernel_rfl) (fun _ _ _ h => h) (Or.inl ⟨by rfl, fun w hSw => by (try dsimp only at hSw); go_simp⟩) hHeld ?_
  simp only [Act.put, List.setIfInBounds_toArray]
  refine wpAnyH_take (i := 1) (v := .int .i64 p) rfl (by kernel_rfl) (by kernel_rfl) (by kernel_rfl) (fun _ _ _ h => h) (Or.inl ⟨by rfl, fun w hSw => by (try dsimp only at hSw); go_simp⟩) hHeld ?_
  simp only [Act.put]
  refine wpAnyH_take (i := 3) (v := .pointer (some ⟨w.heap.size, 1, none⟩)) rfl (by kernel_rfl) (by kernel_rfl) (by kernel_rfl) (fun _ _ _ h => h) (Or.inl ⟨by rfl, fun w hSw => by (try dsimp only at hSw); go_simp⟩) hHeld ?_
  simp only [Act.put]
  refine wpAnyH_take (i := 4) (v := .string (tx m)) rfl (by kernel_rfl) (by kernel_rfl) (by kernel_rfl) (fun _ _ _ h => h) (Or.inl ⟨by rfl, fun w hSw => by (try dsimp only at hSw); go_simp⟩) hHeld ?_
  simp only [Act.put]
  refine wpAnyH_take (i := 6) (v := .pointer (some ⟨w.heap.size, 2, none⟩)) rfl (by kernel_rfl) (by kernel_rfl) (by kernel_rfl) (fun _ _ _ h => h) (Or.inl ⟨by rfl, fun w hSw => by (try dsimp only at hSw); go_simp⟩) hHeld ?_
  simp only [Act.put]
  refine wpAnyH_take (i := 7) (v := .agg #[.int .i64 k, .slice ao ps.length cap]) rfl (by kernel_rfl) (by kernel_rfl) (by kernel_rfl) (fun _ _ _ h => h) (Or.inl ⟨by rfl, fun w hSw => by (try dsimp only at hSw); go_simp⟩) hHeld ?_
  simp only [Act.put]
  refine wpAnyH_ready (rs := [2]) (by kernel_rfl) (by simp) ?_
  refine AllReadyH.cons rfl (fun K hK => ?_) AllReadyH.nil
  go_simp
  refine (HIT.out _ (HPT.out.below BA0.out)).mono ?_
  rintro en w1 ⟨rfl, hb1⟩
  have RB1 := hid (below_block hb1 (show ((w.alloc (rob p (tx m) k (.slice ao ps.length cap))).drew).heap[w.heap.size]? = some (rob p (tx m) k (.slice ao ps.length cap)) from RB.out) (by simp [World.drew]))
  have B1 := hid (show Below w.heap.size w w1 from BA0.out.trans (hb1.mono BA0.out.size))
  clear hb1
  refine hK.out _ _ ⟨(SH.out _ RB1.out).1, (SH.out _ RB1.out).2.1, (SH.out _ RB1.out).2.2.1, (SH.out _ RB1.out).2.2.2.1⟩ (fun hHeld2 => ?_)
  clear hK K
  have hsz1 : w.heap.size < w1.heap.size := lt_of_block RB1.out
  refine wpAnyH_ready (rs := [5, 8]) (by kernel_rfl) (by simp) ?_
  refine AllReadyH.cons rfl (fun K hK => ?_) ?_
  · go_simp
    have RBA := hid (show ((w1.alloc (.cells #[.string ⟨#[114, 117, 108, 101]⟩, .string (tx d), .string (tx m)] 9))).heap[w.heap.size]? = some (rob p (tx m) k (.slice ao ps.length cap)) from new_old _ _ RB1.out)
    refine hK.out _ _ ⟨(SH.out _ RBA.out).1, (SH.out _ RBA.out).2.1, (SH.out _ RBA.out).2.2.1, (SH.out _ RBA.out).2.2.2.1⟩ (fun _ => ?_)
    clear hK K
    have BA := hid (show Below w.heap.size w (w1.alloc (.cells #[.string ⟨#[114, 117, 108, 101]⟩, .string (tx d), .string (tx m)] 9)) from B1.out.alloc B1.out.size _)
    refine wpAnyH_ready (rs := [8]) (by kernel_rfl) (by simp) ?_
    refine AllReadyH.cons rfl (fun K hK => ?_) AllReadyH.nil
    go_simp
    refine (HAW.out _ BA.out).mono ?_
    rintro en w3 ⟨v3, rfl, hown3, hb3⟩
    obtain ⟨g3, cap3, rfl, hg3, hc3⟩ := own_some hown3 (by omega)
    have hl3 := hown3.1
    have N3 := hid (fun j u (hu : (svs aw)[j]? = some u) => (by rw [addr_plus]; exact hc3 j u hu : w3.cell? ((⟨g3, 0, none⟩ : Addr).add j) = some u))
    have RBW := hid (below_block hb3 RBA.out (lt_of_block RBA.out))
    have BW := hid (show Below w.heap.size w w3 from BA.out.trans (hb3.mono BA.out.size))
    have O3 := hid (show w3.ownsRow w.heap.size 9 1 (.slice (some ⟨w1.heap.size, 0, none⟩) 3 3) 3 (svs [Ru.ruleT, d, m]) from
      ⟨rfl, Or.inr ⟨w1.heap.size, 3, #[.string ⟨#[114, 117, 108, 101]⟩, .string (tx d), .string (tx m)], rfl, by omega, below_block hb3 (show ((w1.alloc (.cells #[.string ⟨#[114, 117, 108, 101]⟩, .string (tx d), .string (tx m)] 9))).heap[w1.heap.size]? = some (.cells #[.string ⟨#[114, 117, 108, 101]⟩, .string (tx d), .string (tx m)] 9) from new_0 _ _) (by simp), Nat.le_refl _, by decide, rfl, rfl⟩⟩)
    clear hown3 hb3 hc3
    refine hK.out _ _ ⟨(SH.out _ RBW.out).1, (SH.out _ RBW.out).2.1, (SH.out _ RBW.out).2.2.1, (SH.out _ RBW.out).2.2.2.1⟩ (fun _ => ?_)
    clear hK K
    refine wpAnyH_ready (rs := [9]) (by kernel_rfl) (by simp) ?_
    refine AllReadyH.cons rfl (fun K hK => ?_) AllReadyH.nil
    refine step_append_lies _ (by rfl) (.tmp 8) (.tmp 11) 47 (by rfl) w.heap.size 9 i0 (.string ByteArray.empty) 1 16 Tryz.underlying47 HI.out HZ0.out HZ1.out HZ2.out rfl (by decide) (.slice (some ⟨w1.heap.size, 0, none⟩) 3 3) 3 (svs [Ru.ruleT, d, m]) rfl O3.out ⟨g3, 0, none⟩ n cap3 (svs aw) rfl hl3 N3.out svs_one (by omega) (by unfold maxLen; omega) (by omega) BW.out.size _ rfl ?_
    intro g5 cap5 w5 hown5 hgrow5 hat5 hlt5
    have RB5 := hid (block_grow (r := w1.heap.size) RBW.out hgrow5 (by omega))
    have OW := hid (show w5.ownsRow w.heap.size 9 1 (.slice (some ⟨g5, 0, none⟩) (3 + n) cap5) (3 + n) (svs (Ru.ruleT :: d :: m :: aw)) from hown5)
    have B5 := hid (show Below w.heap.size w w5 from BW.out.grown hgrow5 BW.out.size (fun q hq => by simp [Value.ownBlock] at hq; omega))
    clear hown5 hgrow5 hat5
    refine hK.out _ _ ⟨(SH.out _ RB5.out).1, (SH.out _ RB5.out).2.1, (SH.out _ RB5.out).2.2.1, (SH.out _ RB5.out).2.2.2.1⟩ (fun hHeld5 => ?_)
    clear hK K
    refine wpAnyH_ready (rs := [10]) (by kernel_rfl) (by simp) ?_
    refine AllReadyH.cons rfl (fun K hK => ?_) AllReadyH.nil
    go_simp
    refine hK.out _ _ hHeld5 (fun _ => ?_)
    refine wpAnyH_done (by kernel_rfl) ?_ _
    clear hK K
    go_wp2
    go_ret
    exact ⟨_, rfl, OW.out, B5.out⟩
  · refine AllReadyH.cons rfl (fun K hK => ?_) AllReadyH.nil
    go_simp
    have BA := hid (show Below w.heap.size w w1 from B1.out)
    refine (HAW.out _ BA.out).mono ?_
    rintro en w3 ⟨v3, rfl, hown3, hb3⟩
    obtain ⟨g3, cap3, rfl, hg3, hc3⟩ := own_some hown3 (by omega)
    have hl3 := hown3.1
    have RBX := hid (below_block hb3 (show w1.heap[w.heap.size]? = some (rob p (tx m) k (.slice ao ps.length cap)) from RB1.out) hsz1)
    have BX := hid (show Below w.heap.size w w3 from BA.out.trans (hb3.mono BA.out.size))
    refine hK.out _ _ ⟨(SH.out _ RBX.out).1, (SH.out _ RBX.out).2.1, (SH.out _ RBX.out).2.2.1, (SH.out _ RBX.out).2.2.2.1⟩ (fun _ => ?_)
    clear hK K
    have RBW := hid (new_old w3 (.cells #[.string ⟨#[114, 117, 108, 101]⟩, .string (tx d), .string (tx m)] 9) RBX.out)
    have BW := hid (BX.out.alloc BX.out.size (.cells #[.string ⟨#[114, 117, 108, 101]⟩, .string (tx d), .string (tx m)] 9))
    have hsz3 : w.heap.size < w3.heap.size := lt_of_block RBX.out
    have N3 := hid (fun j u (hu : (svs aw)[j]? = some u) => (by rw [addr_plus]; exact alloc_cell (hc3 j u hu) hg3 (.cells #[.string ⟨#[114, 117, 108, 101]⟩, .string (tx d), .string (tx m)] 9) : (w3.alloc (.cells #[.string ⟨#[114, 117, 108, 101]⟩, .string (tx d), .string (tx m)] 9)).cell? ((⟨g3, 0, none⟩ : Addr).add j) = some u))
    have O3 := hid (show (w3.alloc (.cells #[.string ⟨#[114, 117, 108, 101]⟩, .string (tx d), .string (tx m)] 9)).ownsRow w.heap.size 9 1 (.slice (some ⟨w3.heap.size, 0, none⟩) 3 3) 3 (svs [Ru.ruleT, d, m]) from
      ⟨rfl, Or.inr ⟨w3.heap.size, 3, #[.string ⟨#[114, 117, 108, 101]⟩, .string (tx d), .string (tx m)], rfl, by omega, new_0 _ _, Nat.le_refl _, by decide, rfl, rfl⟩⟩)
    clear hown3 hb3 hc3
    refine wpAnyH_ready (rs := [5]) (by kernel_rfl) (by simp) ?_
    refine AllReadyH.cons rfl (fun K hK => ?_) AllReadyH.nil
    go_simp
    refine hK.out _ _ ⟨(SH.out _ RBW.out).1, (SH.out _ RBW.out).2.1, (SH.out _ RBW.out).2.2.1, (SH.out _ RBW.out).2.2.2.1⟩ (fun _ => ?_)
    clear hK K
    refine wpAnyH_ready (rs := [9]) (by kernel_rfl) (by simp) ?_
    refine AllReadyH.cons rfl (fun K hK => ?_) AllReadyH.nil
    refine step_append_lies _ (by rfl) (.tmp 8) (.tmp 11) 47 (by rfl) w.heap.size 9 i0 (.string ByteArray.empty) 1 16 Tryz.underlying47 HI.out HZ0.out HZ1.out HZ2.out rfl (by decide) (.slice (some ⟨w3.heap.size, 0, none⟩) 3 3) 3 (svs [Ru.ruleT, d, m]) rfl O3.out ⟨g3, 0, none⟩ n cap3 (svs aw) rfl hl3 N3.out svs_one (by omega) (by unfold maxLen; omega) (by omega) BW.out.size _ rfl ?_
    intro g5 cap5 w5 hown5 hgrow5 hat5 hlt5
    have RB5 := hid (block_grow (r := w3.heap.size) RBW.out hgrow5 (by omega))
    have OW := hid (show w5.ownsRow w.heap.size 9 1 (.slice (some ⟨g5, 0, none⟩) (3 + n) cap5) (3 + n) (svs (Ru.ruleT :: d :: m :: aw)) from hown5)
    have B5 := hid (show Below w.heap.size w w5 from BW.out.grown hgrow5 BW.out.size (fun q hq => by simp [Value.ownBlock] at hq; omega))
    clear hown5 hgrow5 hat5
    refine hK.out _ _ ⟨(SH.out _ RB5.out).1, (SH.out _ RB5.out).2.1, (SH.out _ RB5.out).2.2.1, (SH.out _ RB5.out).2.2.2.1⟩ (fun hHeld5 => ?_)
    clear hK K
    refine wpAnyH_ready (rs := [10]) (by kernel_rfl) (by simp) ?_
    refine AllReadyH.cons rfl (fun K hK => ?_) AllReadyH.nil
    go_simp
    refine hK.out _ _ hHeld5 (fun _ => ?_)
    refine wpAnyH_done (by kernel_rfl) ?_ _
    clear hK K
    go_wp2
    go_ret
    exact ⟨_, rfl, OW.out, B5.out⟩
end Go.Proofs.YtemmhingmeinjaaGreatDoor
namespace Go.Proofs.YtemmhingmeinjaaGreatDoor
open Go.RowKit

set_option maxRecDepth 4000 in
set_option maxHeartbeats 2000000 in
theorem Say_someL (ls : List (List UInt8)) (g o cap : Nat) (w : World) (hg : g < w.heap.size) (hc : ∀ i, i < ls.length → w.cell? ⟨g, o + i, none⟩ = some (.string (tx (ls.getD i [])))) (hn : ls.length ≤ 200) (h4 : ∀ l ∈ ls, l.length ≤ 4000) :
    Calls Tryz.prog 59 #[.slice (some ⟨g, o, none⟩) ls.length cap] w fun e w' => e = .returned (.tuple #[.string (tx (sayS ls)), .int .i64 (sayE ls)]) ∧ Below w.heap.size w w' := by
  have HC := hid hc
  have H4 := hid h4
  clear hc h4
  obtain ⟨n, hnn⟩ : ∃ n, n = ls.length := ⟨_, rfl⟩
  have HN := hid hnn
  rw [← hnn] at hn ⊢
  clear hnn
  have hf := hid (Lib.fresh_isBuilder 126 5 w)
  go_enter Tryz.func59, Tryz.ntmps59
  go_wp2
  go_loopw [9] (fun i wr => ∃ k : Nat, k ≤ n ∧ i = .int .i64 k ∧ Hid (Bu w.heap.size w.heap.size (Wo.sayTo ls k) wr) ∧ Hid (∀ j, j < k → Wo.isW (ls.getD j []) = true) ∧ Hid (Below w.heap.size w wr)) (fun i _ => n - (intOf i).toNat)
  case atStart => exact ⟨0, Nat.zero_le _, rfl, hf, fun j hj => absurd hj (Nat.not_lt_zero j), (Below.refl _ _).alloc (Nat.le_refl _) _⟩
  case round =>
    obtain ⟨k, hk, rfl, HB, HW, HL⟩ := hrel
    have hsz := HL.out.size
    by_cases hlt : k < n
    · have ck : wr.cell? ⟨g, o + k, none⟩ = some (.string (tx (ls.getD k []))) := by rw [HL.out.cell (by exact hg)]; exact HC.out k (by rw [← HN.out]; exact hlt)
      obtain ⟨x, hx⟩ : ∃ x, x = ls.getD k [] := ⟨_, rfl⟩
      have hxl := getD_len ls H4.out k
      rw [← hx] at ck hxl
      have HX := hid hx
      clear hx
      have hkI : (0 : Int) ≤ (k : Int) := by omega
      have hkI2 : (k : Int) < (n : Int) := by omega
      have hsl := sayTo_len ls H4.out k
      rcases bool_two (Wo.isW x) with h1 | h1
      · have q : ∀ w, Calls Tryz.prog 95 #[.string (tx x)] w fun e w' => e = .returned (.bool false) ∧ w' = w := fun w => by
          have := isWord_any (tx x) w (by rw [tx_size]; unfold maxLen; omega)
          rw [show (tx x).data.toList = x from rfl, h1] at this; exact this
        have HE := hid (show allW ls = false by
          cases hq : allW ls with
          | false => rfl
          | true => have := allW_getD.1 hq k (by rw [← HN.out]; exact hlt); rw [← HX.out, h1] at this; exact absurd this (by simp))
        clear h1
        go_wp2_with (go_at_call 95; refine (q _).mono ?_; rintro e w' ⟨rfl, rfl⟩)
        go_ret2
        refine ⟨?_, HL.out⟩
        unfold sayS sayE
        rw [HE.out]; rfl
      · have q : ∀ w, Calls Tryz.prog 95 #[.string (tx x)] w fun e w' => e = .returned (.bool true) ∧ w' = w := fun w => by
          have := isWord_any (tx x) w (by rw [tx_size]; unfold maxLen; omega)
          rw [show (tx x).data.toList = x from rfl, h1] at this; exact this
        have HW2 := hid (show ∀ j, j < k + 1 → Wo.isW (ls.getD j []) = true from fun j hj => by
          by_cases e : j = k
          · rw [e, ← HX.out]; exact h1
          · exact HW.out j (by omega))
        clear h1
        by_cases hk0 : 0 < k
        · obtain ⟨y, hy⟩ : ∃ y, y = ls.getD (k - 1) [] := ⟨_, rfl⟩
          have cy : wr.cell? ⟨g, o + (k - 1), none⟩ = some (.string (tx y)) := by
            rw [HL.out.cell (by exact hg), hy]
            exact HC.out (k - 1) (by rw [← HN.out]; omega)
          have hyl := getD_len ls H4.out (k - 1)
          rw [← hy] at hyl
          have hp1 : (0 : Int) ≤ (k : Int) - 1 := by omega
          have hp2 : (k : Int) - 1 < (n : Int) := by omega
          have hk0I : (0 : Int) < (k : Int) := by omega
          have HY := hid hy
          clear hy
          rcases bool_two (Wo.glue y x) with h2 | h2
          · have q2 : ∀ w, Calls Tryz.prog 96 #[.string (tx y), .string (tx x)] w fun e w' => e = .returned (.bool true) ∧ w' = w := fun w => by
              have := mayTouch_any (tx y) (tx x) w (by rw [tx_size, tx_size]; unfold maxLen; omega)
              rw [show (tx x).data.toList = x from rfl, show (tx y).data.toList = y from rfl, h2] at this; exact this
            have HE0 := hid (show Wo.sayTo ls (k + 1) = Wo.sayTo ls k ++ x by
              show Wo.sayTo ls k ++ (if 0 < k ∧ Wo.glue (ls.getD (k - 1) []) (ls.getD k []) = true then [32] else []) ++ ls.getD k [] = _
              rw [← HX.out, ← HY.out, h2, if_neg (by simp)]; simp)
            clear h2
            go_wp2_with (first | (go_at_call 95; refine (q _).mono ?_; rintro e w' ⟨rfl, rfl⟩) | (go_at_call 96; refine (q2 _).mono ?_; rintro e w' ⟨rfl, rfl⟩) | (go_at_call 61; refine (WriteString_any w.heap.size w.heap.size (Wo.sayTo ls k) x _ HB.out (by omega) (by omega) (by omega)).mono ?_; rintro e w2 ⟨rfl, HB2, hb2⟩))
            go_roundw
            case rel => exact ⟨k + 1, by omega, by go_num, by show Bu _ _ _ _; rw [HE0.out]; exact HB2.out, HW2, HL.out.trans hb2⟩
            case measure => simp [intOf]; omega
          · have q2 : ∀ w, Calls Tryz.prog 96 #[.string (tx y), .string (tx x)] w fun e w' => e = .returned (.bool false) ∧ w' = w := fun w => by
              have := mayTouch_any (tx y) (tx x) w (by rw [tx_size, tx_size]; unfold maxLen; omega)
              rw [show (tx x).data.toList = x from rfl, show (tx y).data.toList = y from rfl, h2] at this; exact this
            have HE0 := hid (show Wo.sayTo ls (k + 1) = (Wo.sayTo ls k ++ [32]) ++ x by
              show Wo.sayTo ls k ++ (if 0 < k ∧ Wo.glue (ls.getD (k - 1) []) (ls.getD k []) = true then [32] else []) ++ ls.getD k [] = _
              rw [← HX.out, ← HY.out, h2, if_pos ⟨hk0, rfl⟩])
            clear h2
            have hw2l : (Wo.sayTo ls k ++ [32]).length ≤ 1073741824 := by simp only [List.length_append, List.length_cons, List.length_nil]; omega
            go_wp2_with (first | (go_at_call 95; refine (q _).mono ?_; rintro e w' ⟨rfl, rfl⟩) | (go_at_call 96; refine (q2 _).mono ?_; rintro e w' ⟨rfl, rfl⟩) | (go_at_call 61; refine (WriteString_any w.heap.size w.heap.size (Wo.sayTo ls k ++ [32]) x _ HB1.out hw2l (by omega) (by omega)).mono ?_; rintro e w2 ⟨rfl, HB2, hb2⟩) | (go_at_call 62; refine (WriteByte_any w.heap.size w.heap.size (Wo.sayTo ls k) 32 _ HB.out (by omega) (by omega)).mono ?_; rintro e w1 ⟨rfl, HB1, hb1⟩; have hs1 := hb1.size))
            go_roundw
            case rel => exact ⟨k + 1, by omega, by go_num, by show Bu _ _ _ _; rw [HE0.out]; exact HB2.out, HW2, HL.out.trans (hb1.trans hb2)⟩
            case measure => simp [intOf]; omega
        · have HE0 := hid (show Wo.sayTo ls (k + 1) = Wo.sayTo ls k ++ x by
            show Wo.sayTo ls k ++ (if 0 < k ∧ Wo.glue (ls.getD (k - 1) []) (ls.getD k []) = true then [32] else []) ++ ls.getD k [] = _
            rw [← HX.out, if_neg (by omega)]; simp)
          have hk0I : decide ((0 : Int) < (k : Int)) = false := decide_eq_false (by omega)
          go_wp2_with (first | (go_at_call 95; refine (q _).mono ?_; rintro e w' ⟨rfl, rfl⟩) | (go_at_call 61; refine (WriteString_any w.heap.size w.heap.size (Wo.sayTo ls k) x _ HB.out (by omega) (by omega) (by omega)).mono ?_; rintro e w2 ⟨rfl, HB2, hb2⟩))
          go_roundw
          case rel => exact ⟨k + 1, by omega, by go_num, by show Bu _ _ _ _; rw [HE0.out]; exact HB2.out, HW2, HL.out.trans hb2⟩
          case measure => simp [intOf]; omega
    · have hkn : k = n := by omega
      have HE := hid (show allW ls = true from allW_getD.2 (fun i hi => HW.out i (by rw [← HN.out] at hi; omega)))
      have HS := hid (show Wo.sayTo ls k = Wo.sayL ls by rw [hkn, HN.out]; exact Wo.sayTo_all ls)
      clear hkn
      go_wp2_with (go_at_call 63; refine (String_any w.heap.size w.heap.size (Wo.sayTo ls k) _ HB.out (by omega)).mono ?_; rintro e w1 ⟨rfl, hb1⟩)
      go_ret2
      refine ⟨?_, HL.out.trans hb1⟩
      unfold sayS sayE
      rw [HE.out, if_pos rfl, if_pos rfl, ← HS.out]
      rfl

theorem Say_anyL (v : Value) (ls : List (List UInt8)) (w : World) (h : Txs w v ls) (hn : ls.length ≤ 200) (h4 : ∀ l ∈ ls, l.length ≤ 4000) :
    Calls Tryz.prog 59 #[v] w fun e w' => e = .returned (.tuple #[.string (tx (sayS ls)), .int .i64 (sayE ls)]) ∧ Below w.heap.size w w' := by
  obtain ⟨ao, cap, rfl, hr⟩ := h
  rcases hr with rfl | ⟨g, o, rfl, hg, hc⟩
  · exact Say_none ao cap w
  · exact Say_someL ls g o cap w hg hc hn h4
end Go.Proofs.YtemmhingmeinjaaGreatDoor
namespace Go.Proofs.YtemmhingmeinjaaGreatDoor
open Go.RowKit
open Wo (Wd)

structure RViewO (w : World) (g o : Nat) (ps : List (Ru.Rl × Value)) : Prop where
  old : g < w.heap.size
  cell : ∀ (i : Nat) (q : Ru.Rl × Value), ps[i]? = some q → w.cell? ⟨g, o + i * 4, none⟩ = some (.int .i64 q.1.prio) ∧ w.cell? ⟨g, o + i * 4 + 1, none⟩ = some (.string (tx q.1.mat)) ∧ w.cell? ⟨g, o + i * 4 + 2, none⟩ = some (.int .i64 q.1.kind) ∧ w.cell? ⟨g, o + i * 4 + 3, none⟩ = some q.2
  ports : ∀ q ∈ ps, Txs w q.2 q.1.ports
theorem lineW_eq (x : Ru.Rl) : Ru.lineW x = Ru.ruleT :: Lib.decDigits x.prio :: x.mat :: actW x.kind x.ports := rfl
theorem printT_snoc (rs : List Ru.Rl) (x : Ru.Rl) : Ru.printT (rs ++ [x]) = (Ru.printT rs ++ Wo.sayL (Ru.lineW x)) ++ [10] := by simp [Ru.printT]

theorem Bu.below {B b : Nat} {l : List UInt8} {w w' : World} (h : Bu B b l w) (hb : Below w.heap.size w w') : Bu B b l w' := by
  have key : ∀ {p : Value}, Lib.BuilderAt 126 5 B b p (Lib.byteCells l) w → Lib.BuilderAt 126 5 B b p (Lib.byteCells l) w' := by
    rintro p ⟨hB, v, h1, h2, h3⟩
    exact ⟨hB, v, below_block hb h1 (lt_of_block h1), h2.kept (grown_of_below none hb) (by rcases hv : v.ownBlock with _ | k; exact Or.inl rfl; exact Or.inr (by simp)), h3⟩
  exact h.elim (fun x => .inl (key x)) (fun x => .inr (key x))
theorem joinT_len (c : Nat) (ls : List (List UInt8)) : ∀ a, (∀ l ∈ ls, l.length ≤ c) → (Wo.joinT a ls).length ≤ ls.length * (c + 1) := by
  induction ls with
  | nil => intro a _; simp [Wo.joinT]
  | cons b r ih =>
    intro a h
    have e : Wo.joinT a (b :: r) = (if Wo.glue a b then 32 :: b else b) ++ Wo.joinT b r := rfl
    have h1 := ih b (fun l hl => h l (List.mem_cons_of_mem _ hl))
    have h2 := h b (by simp)
    rw [e, List.length_append, List.length_cons, Nat.add_mul, Nat.one_mul]
    split
    · rw [List.length_cons]; omega
    · omega
theorem sayL_short {c : Nat} {ls : List (List UInt8)} (h : ∀ l ∈ ls, l.length ≤ c) : (Wo.sayL ls).length ≤ ls.length * (c + 1) := by
  cases ls with
  | nil => simp [Wo.sayL]
  | cons a r =>
    have h1 := joinT_len c r a (fun l hl => h l (List.mem_cons_of_mem _ hl))
    have h2 := h a (by simp)
    show (a ++ Wo.joinT a r).length ≤ _
    rw [List.length_append, List.length_cons, Nat.add_mul, Nat.one_mul]
    omega
theorem seq_short {r : List (List UInt8)} (h : ∀ q ∈ r, Wo.nameB q = true) : ∀ l ∈ Ru.seqT r, l.length ≤ 128 := by
  induction r with
  | nil => intro l hl; rw [List.mem_singleton.1 hl]; decide
  | cons q r ih =>
    intro l hl
    rcases List.mem_cons.1 hl with rfl | hl
    · decide
    · rcases List.mem_cons.1 hl with rfl | hl
      · exact Nat.le_trans (nameB_short (h _ (by simp))) (by omega)
      · exact ih (fun y hy => h y (List.mem_cons_of_mem _ hy)) l hl
theorem line_short {width : Nat} {x : Ru.Rl} (hx : Ru.OkRl width x) : (∀ l ∈ Ru.lineW x, l.length ≤ 128) ∧ (Ru.lineW x).length ≤ 134 := by
  have hk : 1 ≤ x.kind ∧ x.kind ≤ 4 := by rcases hx.act with ⟨h, _⟩ | ⟨h, _⟩ <;> omega
  have hp64 : x.ports.length ≤ 64 := by
    rcases hx.act with ⟨_, q⟩ | ⟨_, q⟩
    · rw [q]; simp
    · exact q.2.1
  refine ⟨fun l hl => ?_, ?_⟩
  · rcases List.mem_cons.1 hl with rfl | hl
    · decide
    rcases List.mem_cons.1 hl with rfl | hl
    · have := (Ru.digits_num hx.prio).1
      by_cases q : 10 < (Lib.decDigits x.prio).length
      · rw [Wo.num_long q] at this; cases this
      · omega
    rcases List.mem_cons.1 hl with rfl | hl
    · exact (Cub.Cu.right_all hx.cube).2.2
    rcases List.mem_cons.1 hl with rfl | hl
    · rcases (by omega : x.kind = 1 ∨ x.kind = 2 ∨ x.kind = 3 ∨ x.kind = 4) with h | h | h | h <;> (rw [h]; decide)
    rcases hx.act with ⟨_, hp⟩ | ⟨_, hp⟩
    · rw [hp] at hl; exact absurd hl (by simp [Ru.tailW])
    · obtain ⟨_, _, h3, _⟩ := hp
      cases hq : x.ports with
      | nil => rw [hq] at hl; exact absurd hl (by simp [Ru.tailW])
      | cons p r =>
        rw [hq] at hl h3
        rcases List.mem_cons.1 hl with rfl | hl
        · decide
        · rcases List.mem_cons.1 hl with rfl | hl
          · exact Nat.le_trans (nameB_short (h3 _ (by simp))) (by omega)
          · exact seq_short (fun y hy => h3 y (List.mem_cons_of_mem _ hy)) l hl
  · have := tailW_len hp64
    unfold Ru.lineW
    simp only [List.length_cons]
    omega
theorem line_len {width : Nat} {x : Ru.Rl} (hx : Ru.OkRl width x) : (Wo.sayL (Ru.lineW x)).length ≤ 17286 := by
  obtain ⟨h1, h2⟩ := line_short hx
  have := sayL_short h1
  exact Nat.le_trans this (Nat.mul_le_mul_right 129 h2)
theorem printT_len {width : Nat} (rs : List Ru.Rl) (h : ∀ x ∈ rs, Ru.OkRl width x) : (Ru.printT rs).length ≤ rs.length * 17287 := by
  induction rs with
  | nil => simp [Ru.printT]
  | cons x r ih =>
    have e : Ru.printT (x :: r) = Wo.sayL (Ru.lineW x) ++ 10 :: Ru.printT r := by simp [Ru.printT]
    have h1 := ih (fun y hy => h y (List.mem_cons_of_mem _ hy))
    have h2 := line_len (h x (by simp))
    rw [e, List.length_append, List.length_cons, List.length_cons, Nat.add_mul, Nat.one_mul]
    omega
theorem line_said {width : Nat} {x : Ru.Rl} (hx : Ru.OkRl width x) : sayS (Ru.lineW x) = Wo.sayL (Ru.lineW x) := by
  unfold sayS
  rw [if_pos]
  unfold allW
  exact List.all_eq_true.2 (Ru.isW_line hx)
theorem OkRl.actI {width : Nat} {x : Ru.Rl} (hx : Ru.OkRl width x) : okAct x.kind x.ports := by
  rcases hx.act with ⟨h, hp⟩ | ⟨h, hp⟩
  · exact Or.inl ⟨by omega, hp⟩
  · exact Or.inr ⟨by omega, hp⟩

set_option maxRecDepth 20000 in
set_option maxHeartbeats 2000000 in
theorem text_some {w : World} {g o cap width n : Nat} {ps : List (Ru.Rl × Value)} (h : RViewO w g o ps) (hn : ps.length = n) (h60 : n ≤ 4096) (hok : ∀ q ∈ ps, Ru.OkRl width q.1) (hT : PowTab w) :
    Calls Tryz.prog 34 #[.slice (some ⟨g, o, none⟩) n cap] w fun en w' => en = .returned (.string (tx (Ru.printT (ps.map Prod.fst)))) ∧ Below w.heap.size w w' := by
  have H := hid h
  have HN := hid hn
  have HOK := hid hok
  have HT := hid hT
  have hg := h.old
  clear h hn hok hT
  have hf := hid (Lib.fresh_isBuilder 126 5 w)
  go_enter Tryz.func34, Tryz.ntmps34
  go_wp2_with fail
  go_loopw [10] (fun i wr => ∃ j : Nat, j ≤ n ∧ i = .int .i64 j ∧ Hid (Bu w.heap.size w.heap.size (Ru.printT ((ps.map Prod.fst).take j)) wr) ∧ Hid (Below w.heap.size w wr)) (fun i _ => n - (intOf i).toNat)
  case atStart => exact ⟨0, Nat.zero_le _, rfl, hf, (Below.refl _ _).alloc (Nat.le_refl _) _⟩
  case round =>
    obtain ⟨j, hj, rfl, HBu, HB⟩ := hrel
    by_cases hlt : j < n
    · obtain ⟨q, hq⟩ : ∃ q, ps[j]? = some q := ⟨ps[j]'(by rw [HN.out]; exact hlt), List.getElem?_eq_getElem _⟩
      obtain ⟨a0, a1, a2, a3⟩ := H.out.cell j q hq
      have hp := H.out.ports q (List.mem_of_getElem? hq)
      have HO := hid (HOK.out q (List.mem_of_getElem? hq))
      obtain ⟨x, u⟩ := q
      simp only at a0 a1 a2 a3 hp HO
      have HQ := hid hq
      have HP := hid hp
      obtain ⟨ao, s1, rfl, _⟩ := hp
      have k0 := (HB.out.cell (p := ⟨g, o + j * 4, none⟩) (by exact hg)).trans a0
      have k1 := (HB.out.cell (p := ⟨g, o + j * 4 + 1, none⟩) (by exact hg)).trans a1
      have k2 := (HB.out.cell (p := ⟨g, o + j * 4 + 2, none⟩) (by exact hg)).trans a2
      have k3 := (HB.out.cell (p := ⟨g, o + j * 4 + 3, none⟩) (by exact hg)).trans a3
      have hkI : (j : Int) < (n : Int) := by omega
      have hk0 : (0 : Int) ≤ (j : Int) := by omega
      clear hq a0 a1 a2 a3
      have HRW := hid (fun (W : World) (hb : Below w.heap.size w W) => ruleWords_any (m := x.mat) (HP.out.below hb) (OkRl.actI HO.out) HO.out.prio (HT.out.below hb))
      rw [← lineW_eq] at HRW
      have hls := hid (line_short HO.out)
      have HSY := hid (fun (v : Value) (w' : World) (h : Txs w' v (Ru.lineW x)) => Say_anyL v (Ru.lineW x) w' h (by have := hls.out.2; omega) (fun l hl => by have := hls.out.1 l hl; omega))
      rw [line_said HO.out] at HSY
      have HLL := hid (show (Ru.lineW x).length = 3 + (actW x.kind x.ports).length by rw [lineW_eq]; simp only [List.length_cons]; omega)
      have hln := line_len HO.out
      have hpt := printT_len ((ps.map Prod.fst).take j) (fun y hy => by
        obtain ⟨q, hq, rfl⟩ := List.mem_map.1 (List.mem_of_mem_take hy)
        exact HOK.out q hq)
      have HPS := hid (show Ru.printT ((ps.map Prod.fst).take (j + 1)) = (Ru.printT ((ps.map Prod.fst).take j) ++ Wo.sayL (Ru.lineW x)) ++ [10] by
        rw [List.take_add_one, show (ps.map Prod.fst)[j]? = some x by rw [List.getElem?_map, HQ.out]; rfl]
        exact printT_snoc _ _)
      have hpt2 : ((ps.map Prod.fst).take j).length ≤ 4096 := by rw [List.length_take]; omega
      obtain ⟨T, hTT⟩ : ∃ T, T = Ru.printT ((ps.map Prod.fst).take j) := ⟨_, rfl⟩
      obtain ⟨L, hLL⟩ : ∃ L, L = Wo.sayL (Ru.lineW x) := ⟨_, rfl⟩
      rw [← hTT] at HBu HPS hpt
      rw [← hLL] at HSY HPS hln
      have hTl : T.length ≤ 90000000 := by omega
      clear hTT hLL hpt hpt2
      have hsz := HB.out.size
      have hbu : w.heap.size < wr.heap.size := by
        rcases HBu.out with ⟨_, v, h1, _⟩ | ⟨_, v, h1, _⟩ <;> exact lt_of_block h1
      have B0 := hid (show Below w.heap.size w (wr.alloc (rob x.prio (tx x.mat) x.kind (.slice ao x.ports.length s1))) from HB.out.alloc hsz _)
      have U0 := hid (HBu.out.below (w' := wr.alloc (rob x.prio (tx x.mat) x.kind (.slice ao x.ports.length s1))) ((Below.refl _ _).alloc (Nat.le_refl _) _))
      go_wp2_with fail
      refine (HRW.out _ B0.out).mono ?_
      rintro en w3 ⟨v3, rfl, hown3, hb3⟩
      have HT3 := hid (own_txs (show w3.ownsRow _ 9 1 v3 (Ru.lineW x).length (svs (Ru.lineW x)) by rw [HLL.out]; exact hown3))
      obtain ⟨ao3, cap3, rfl⟩ := own_form hown3
      have B3 := hid (B0.out.trans (hb3.mono B0.out.size))
      have U3 := hid (U0.out.below hb3)
      clear hown3 hb3
      go_wp2_with fail
      refine (HSY.out _ _ HT3.out).mono ?_
      rintro en w4 ⟨rfl, hb4⟩
      have B4 := hid (B3.out.trans (hb4.mono B3.out.size))
      have U4 := hid (U3.out.below hb4)
      clear hb4
      go_wp2_with fail
      refine (WriteString_any w.heap.size w.heap.size T L _ U4.out (by omega) (by omega) B4.out.size).mono ?_
      rintro en w5 ⟨rfl, U5, hb5⟩
      have B5 := hid (B4.out.trans hb5)
      clear hb5
      go_wp2_with fail
      refine (WriteByte_any w.heap.size w.heap.size (T ++ L) 10 _ U5.out (by rw [List.length_append]; omega) B5.out.size).mono ?_
      rintro en w6 ⟨rfl, U6, hb6⟩
      have B6 := hid (B5.out.trans hb6)
      clear hb6
      go_wp2
      go_roundw
      case rel => exact ⟨j + 1, by omega, by go_num, by show Bu _ _ _ _; rw [HPS.out]; exact U6.out, B6⟩
      case measure => simp [intOf]; omega
    · have hkI : ¬ ((j : Int) < (n : Int)) := by omega
      have HE := hid (show (ps.map Prod.fst).take j = ps.map Prod.fst from List.take_of_length_le (by rw [List.length_map, HN.out]; omega))
      rw [HE.out] at HBu
      go_wp2_with fail
      refine (String_any w.heap.size w.heap.size _ _ HBu.out HB.out.size).mono ?_
      rintro en w1 ⟨rfl, hb1⟩
      go_wp2
      go_ret
      exact ⟨rfl, HB.out.trans hb1⟩
end Go.Proofs.YtemmhingmeinjaaGreatDoor
