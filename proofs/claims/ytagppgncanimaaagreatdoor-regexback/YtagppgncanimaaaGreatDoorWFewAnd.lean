/-
  Expressions whose lists lie in certain blocks, and rows of expressions that are one's own.
  The program's kidWords.
  The laws WordsSay and WordsBack: of any texts they answer true.
  Say by the document's own reckoning.
  Words by the document's own reckoning: word, glued.
  few: the first texts of a slice that came in, each cut off.
-/
import Derived.Test.YtagppgncanimaaaGreatDoorWRefMAnd
import Derived.SliceStrings
import Derived.Test.YtagppgncanimaaaGreatDoorXAddAnd
import Derived.Maps.AppendAt
import Derived.Deep.RegionHeld2
import Derived.Test.YtagppgncanimaaaGreatDoorWKindAnd
namespace Go.Proofs.YtagppgncanimaaaGreatDoor
open Go.RowKit

theorem Tryz.infoString : (Tryz.prog.info? 9).map (fun i => (i.zero, i.size, i.bytes)) = some (some (.string ⟨#[]⟩), 1, 16) := by kernel_rfl

/-- What is known of a slice of texts that came in. -/
def Came (w : World) (a0 : Option Addr) (len cap : Nat) (ss : List ByteArray) : Prop :=
  (a0 = none ∧ len = 0 ∧ cap = 0 ∧ ss = []) ∨ ∃ a, a0 = some a ∧ len ≤ cap ∧ cap ≤ maxLen ∧ ss.length = cap ∧ (∀ i, i < ss.length → w.cell? (a.add i) = some (.string (ss.getD i ByteArray.empty))) ∧ ∀ s ∈ ss, s.size ≤ maxLen
theorem addr_add (g o i : Nat) : (⟨g, o, none⟩ : Addr).add i = ⟨g, o + i, none⟩ := by
  unfold Addr.add; split <;> simp_all
theorem addr_of {w : World} {a : Addr} {v : Value} (h : w.cell? (a.add 0) = some v) : (∃ g o, a = ⟨g, o, none⟩) ∧ a.block < w.heap.size := by
  have e : a.add 0 = a := by unfold Addr.add; simp
  rw [e] at h
  obtain ⟨g, o, sp⟩ := a
  have hlt : g < w.heap.size := by
    unfold World.cell? at h
    cases hh : w.heap[g]? with
    | none => simp [hh] at h
    | some x => exact lt_of_block hh
  refine ⟨?_, hlt⟩
  cases sp with
  | none => exact ⟨g, o, rfl⟩
  | some s =>
    exfalso
    unfold World.cell? at h
    simp only [Option.isSome_some, if_true] at h
    split at h <;> cases h

/-- The first k texts, each cut off. -/
def fewT (ss : List ByteArray) (k : Nat) : List (List UInt8) := (ss.take k).map cutT
def svs (ls : List (List UInt8)) : List Value := ls.map fun l => .string (tx l)
theorem fewT_len {ss : List ByteArray} {k : Nat} (h : k ≤ ss.length) : (fewT ss k).length = k := by simp [fewT]; omega
theorem fewT_snoc {ss : List ByteArray} {k : Nat} (h : k < ss.length) : fewT ss (k + 1) = fewT ss k ++ [cutT (ss.getD k ByteArray.empty)] := by
  unfold fewT
  rw [List.take_succ_eq_append_getElem h, List.map_append, List.getD_eq_getElem?_getD, List.getElem?_eq_getElem h]
  rfl
theorem fewT_short (ss : List ByteArray) (k : Nat) : ∀ l ∈ fewT ss k, l.length ≤ 4000 := by
  intro l hl
  obtain ⟨s, _, rfl⟩ := List.mem_map.1 hl
  exact cutT_len s
theorem own_txs {w : World} {B : Nat} {v : Value} {ls : List (List UInt8)} (h : w.ownsRow B 9 1 v ls.length (svs ls)) : Txs w v ls := by
  by_cases h0 : 0 < ls.length
  · obtain ⟨g, cap, rfl, hg, hc⟩ := own_some h h0
    refine ⟨_, cap, rfl, Or.inr ⟨g, 0, rfl, hg, fun i hi => ?_⟩⟩
    rw [Nat.zero_add]
    refine hc i _ ?_
    simp [svs, List.getD_eq_getElem?_getD, List.getElem?_eq_getElem hi]
  · have : ls = [] := List.length_eq_zero_iff.1 (by omega)
    subst this
    obtain ⟨ao, cap, rfl⟩ := own_form h
    exact Txs.nil _ _ _

/-- How many texts are looked at. -/
def fewL (ss : List ByteArray) (len : Nat) : List (List UInt8) := fewT ss (min len 60)
theorem fewL_len (ss : List ByteArray) (len : Nat) : (fewL ss len).length ≤ 60 := by unfold fewL fewT; simp; omega
end Go.Proofs.YtagppgncanimaaaGreatDoor
namespace Go.Proofs.YtagppgncanimaaaGreatDoor
open Go.RowKit

theorem tk_len (l : List UInt8) (c : Nat) : ∀ p ∈ (Wo.tk l c).1, p.1.length ≤ l.length := by
  generalize hn : l.length = n
  induction n using Nat.strongRecOn generalizing l c with
  | ind n ih =>
    intro p hp
    cases l with
    | nil => rw [Wo.tk_nil] at hp; exact absurd hp (by simp)
    | cons a t =>
      simp only [List.length_cons] at hn
      by_cases h35 : a.toNat = 35
      · rw [Wo.tk_hash _ _ _ h35] at hp; exact absurd hp (by simp)
      · cases hb : Wo.blk a.toNat with
        | true =>
          rw [Wo.tk_blank _ _ _ h35 hb] at hp
          have := ih t.length (by omega) t _ rfl p hp
          omega
        | false =>
          by_cases h0 : Wo.fst (a :: t) = 0
          · rw [Wo.tk_fault _ _ _ h35 hb h0] at hp; exact absurd hp (by simp)
          · rw [Wo.tk_word _ _ _ h35 hb h0] at hp
            have hle := Wo.fst_le (a :: t)
            simp only [List.length_cons] at hle
            rcases List.mem_cons.1 hp with rfl | hp
            · simp only [List.length_take, List.length_cons]; omega
            · have := ih ((a :: t).drop (Wo.fst (a :: t))).length (by rw [List.length_drop, List.length_cons]; omega) _ _ rfl p hp
              rw [List.length_drop, List.length_cons] at this
              omega

theorem isW_tk {l : List UInt8} (h : Wo.isW l = true) (c : Nat) : Wo.tk l c = ([(l, c)], none) := by
  have := Wo.tk_first (c := c) h (Wo.fst_blank h [] (Or.inl rfl))
  rw [List.append_nil, Wo.tk_nil] at this
  exact this
theorem isW_of_tk {l : List UInt8} {c : Nat} {p : List UInt8 × Nat} (h2 : (Wo.tk l c).2 = none) (h1 : (Wo.tk l c).1 = [p]) (hp : p.1 = l) : Wo.isW l = true := by
  cases l with
  | nil => rw [Wo.tk_nil] at h1; cases h1
  | cons a t =>
    by_cases h35 : a.toNat = 35
    · rw [Wo.tk_hash _ _ _ h35] at h1; cases h1
    · cases hb : Wo.blk a.toNat with
      | true =>
        rw [Wo.tk_blank _ _ _ h35 hb] at h1
        have := tk_len t (c + 1) p (by rw [h1]; simp)
        rw [hp] at this
        simp only [List.length_cons] at this
        omega
      | false =>
        by_cases h0 : Wo.fst (a :: t) = 0
        · rw [Wo.tk_fault _ _ _ h35 hb h0] at h2; cases h2
        · rw [Wo.tk_word _ _ _ h35 hb h0] at h1
          injection h1 with e1 e2
          rw [← e1] at hp
          have hl := congrArg List.length hp
          simp only [List.length_take, List.length_cons] at hl
          have hle := Wo.fst_le (a :: t)
          simp only [List.length_cons] at hle
          exact decide_eq_true ⟨by simp, by simp only [List.length_cons]; omega⟩
theorem sgn_isW {l : List UInt8} (h : sgn l = true) : Wo.isW l = true := by
  match l, h with
  | [a], h =>
    have h' : Wo.sgl a.toNat = true := h
    exact decide_eq_true ⟨by simp, by rw [Wo.fst_one, h']; rfl⟩
  | [a, b], h =>
    have h' : Wo.dbl a.toNat b.toNat = true := h
    exact decide_eq_true ⟨by simp, by rw [Wo.fst_two, h']; rfl⟩

theorem tx_eq_iff (a b : List UInt8) : ((tx a).toList == (tx b).toList) = decide (a = b) := by
  rw [Lib.toList_data, Lib.toList_data]
  show (a == b) = _
  by_cases h : a = b
  · subst h; simp
  · simp [h]

set_option maxRecDepth 4000 in
set_option maxHeartbeats 1000000 in
theorem Rword_any (l : List UInt8) (w : World) (hl : l.length ≤ 1048576) : Calls Tryz.prog 54 #[.string (tx l)] w fun e w' => e = .returned (.bool (Wo.isW l)) ∧ Below w.heap.size w w' := by
  have q1 := fun w => RSign_any (tx l) w
  rw [show (tx l).data.toList = l from rfl] at q1
  have q2 := fun w => line_any l 1 w hl (by omega)
  rcases bool_two (sgn l) with hs | hs
  · rw [hs] at q1
    obtain ⟨s, hsd⟩ : ∃ s, s = tx l := ⟨_, rfl⟩
    rw [← hsd] at q1 q2 ⊢
    have HS := hid hsd
    clear hsd hs
    go_enter Tryz.func54, Tryz.ntmps54
    go_wp2_with (first | (go_at_call 78; refine (q1 _).mono ?_; rintro e w' ⟨rfl, rfl⟩) | fail)
    refine (q2 _).mono ?_
    clear q1 q2
    rintro e w1 ⟨hb1, ⟨c, hf, rfl⟩ | ⟨v, hno, rfl, hown⟩⟩
    · have HE := hid (show Wo.isW l = false by
        cases hq : Wo.isW l with
        | false => rfl
        | true => rw [isW_tk hq] at hf; cases hf)
      have hc : decide ((c : Int) < 0) = false := decide_eq_false (by omega)
      clear hf
      go_wp2
      go_ret
      exact ⟨ret_bool HE.out.symm, hb1⟩
    · obtain ⟨ao, cap, rfl⟩ := own_form hown
      by_cases h1 : ∃ p, (Wo.tk l 1).1 = [p]
      · obtain ⟨p, hp⟩ := h1
        rw [hp] at hown ⊢
        obtain ⟨g, cap', hv, hg, hc⟩ := own_some hown (by simp)
        injection hv with e1 e2 e3
        subst e1
        have c0 := hc 0 (.string (tx p.1)) (by simp [Wo.wds, flatW, wcl])
        have HE := hid (show Wo.isW l = (p.1 == s.toList) by
          have e0 : (p.1 == s.toList) = decide (p.1 = l) := by rw [HS.out]; have := tx_eq_iff p.1 l; rw [Lib.toList_data] at this; exact this
          rw [e0]
          cases hq : Wo.isW l with
          | true =>
            have := isW_tk hq 1
            rw [this] at hp
            injection hp with e1 _
            rw [← e1]; simp
          | false =>
            symm
            refine decide_eq_false (fun e => ?_)
            have := isW_of_tk hno hp e
            rw [hq] at this; cases this)
        clear hno hown hc hp
        go_wp2
        go_ret
        exact ⟨ret_bool HE.out.symm, hb1⟩
      · have hlen : (Wo.tk l 1).1.length ≠ 1 := fun e => by
          match hq : (Wo.tk l 1).1, e with
          | [p], _ => exact h1 ⟨p, hq⟩
        have hlb : (((Wo.tk l 1).1.length : Int) == 1) = false := by rw [beq_eq_false_iff_ne]; omega
        have HE := hid (show Wo.isW l = false by
          cases hq : Wo.isW l with
          | false => rfl
          | true => exact absurd ⟨_, by rw [isW_tk hq]⟩ h1)
        clear hno hown h1 hlen
        go_wp2
        go_ret
        exact ⟨ret_bool HE.out.symm, hb1⟩
  · have HE := hid (sgn_isW hs)
    rw [hs] at q1
    clear hs
    go_enter Tryz.func54, Tryz.ntmps54
    go_wp2_with (go_at_call 78; refine (q1 _).mono ?_; rintro e w' ⟨rfl, rfl⟩)
    go_ret
    exact ⟨ret_bool HE.out.symm, Below.refl _ _⟩

theorem glue_tk {a b : List UInt8} (ha : Wo.isW a = true) (hb : Wo.isW b = true) (hg : Wo.glue a b = false) : Wo.tk (a ++ b) 1 = ([(a, 1), (b, 1 + a.length)], none) := by
  have hg' : Wo.fst (a ++ b) = a.length := Decidable.not_not.1 (of_decide_eq_false hg)
  rw [Wo.tk_first ha hg', isW_tk hb]
theorem glue_not {a b : List UInt8} (ha : Wo.isW a = true) (hg : Wo.glue a b = true) {p q : List UInt8 × Nat} (h2 : (Wo.tk (a ++ b) 1).2 = none) (h1 : (Wo.tk (a ++ b) 1).1 = [p, q]) : p.1 ≠ a := by
  have hg' : Wo.fst (a ++ b) ≠ a.length := of_decide_eq_true hg
  obtain ⟨x, t, rfl⟩ : ∃ x t, a = x :: t := by
    cases a with
    | nil => exact absurd rfl (Wo.isW_ne ha)
    | cons x t => exact ⟨x, t, rfl⟩
  have hx : Wo.ltr x.toNat = true ∨ Wo.sgl x.toNat = true := Wo.fst_head (t := t) (by rw [Wo.isW_len ha]; simp)
  obtain ⟨p1, p2, _⟩ := Wo.head_plain hx
  intro hp
  have e : x :: t ++ b = x :: (t ++ b) := rfl
  rw [e] at h1 h2 hg'
  by_cases h0 : Wo.fst (x :: (t ++ b)) = 0
  · rw [Wo.tk_fault _ _ _ p1 p2 h0] at h2; cases h2
  · rw [Wo.tk_word _ _ _ p1 p2 h0] at h1
    injection h1 with e1 e2
    rw [← e1] at hp
    have hl := congrArg List.length hp
    have hle := Wo.fst_le (x :: (t ++ b))
    rw [List.length_take, Nat.min_eq_left hle] at hl
    exact hg' hl

set_option maxRecDepth 4000 in
set_option maxHeartbeats 1000000 in
theorem Rglued_any (a b : List UInt8) (w : World) (ha : Wo.isW a = true) (hb : Wo.isW b = true) (hl : a.length + b.length ≤ 1048576) : Calls Tryz.prog 55 #[.string (tx a), .string (tx b)] w fun e w' => e = .returned (.bool (Wo.glue a b)) ∧ Below w.heap.size w w' := by
  have q2 := fun w => line_any (a ++ b) 1 w (by rw [List.length_append]; exact hl) (by omega)
  have hap : tx (a ++ b) = tx a ++ tx b := by
    apply ByteArray.ext
    simp
  rw [hap] at q2
  have HA := hid ha
  have HB := hid hb
  have hov : ¬ 9223372036854775807 < (tx a).size + (tx b).size := by rw [tx_size, tx_size]; omega
  have hov2 : ¬ 9223372036854775807 < a.length + b.length := by omega
  clear ha hb hap
  go_enter Tryz.func55, Tryz.ntmps55
  go_wp2_with fail
  refine (q2 _).mono ?_
  clear q2 hov hov2
  rintro e w1 ⟨hb1, ⟨c, hf, rfl⟩ | ⟨v, hno, rfl, hown⟩⟩
  · have HE := hid (show Wo.glue a b = true by
      cases hq : Wo.glue a b with
      | true => rfl
      | false => rw [glue_tk HA.out HB.out hq] at hf; cases hf)
    have hc : (0 : Int) ≤ (c : Int) := by omega
    clear hf
    go_wp2
    go_ret
    exact ⟨ret_bool HE.out.symm, hb1⟩
  · obtain ⟨ao, cap, rfl⟩ := own_form hown
    by_cases h1 : ∃ p q, (Wo.tk (a ++ b) 1).1 = [p, q]
    · obtain ⟨p, q, hp⟩ := h1
      rw [hp] at hown ⊢
      obtain ⟨g, cap', hv, hg, hc⟩ := own_some hown (by simp)
      injection hv with e1 e2 e3
      subst e1
      have c0 := hc 0 (.string (tx p.1)) (by simp [Wo.wds, flatW, wcl])
      have c3 := hc 3 (.string (tx q.1)) (by simp [Wo.wds, flatW, wcl])
      rcases bool_two (Wo.glue a b) with hq | hq
      · have hpq := glue_tk HA.out HB.out hq
        rw [hpq] at hp
        injection hp with u1 u2
        injection u2 with u3 _
        subst u1
        subst u3
        have HQ := hid hq
        clear hno hown hc hq hpq
        go_wp2
        go_ret
        exact ⟨ret_bool (by rw [HQ.out]), hb1⟩
      · have hne := glue_not HA.out hq hno hp
        have hb' : (p.1 == a) = false := beq_eq_false_iff_ne.2 hne
        have HQ := hid hq
        clear hno hown hc hq hne
        go_wp2
        go_ret
        exact ⟨ret_bool (by rw [HQ.out]), hb1⟩
    · have hlen : (Wo.tk (a ++ b) 1).1.length ≠ 2 := fun e => by
        match hq : (Wo.tk (a ++ b) 1).1, e with
        | [p, q], _ => exact h1 ⟨p, q, hq⟩
      have hlb : (((Wo.tk (a ++ b) 1).1.length : Int) != 2) = true := by rw [bne_iff_ne]; omega
      have HE := hid (show Wo.glue a b = true by
        cases hq : Wo.glue a b with
        | true => rfl
        | false => exact absurd ⟨_, _, by rw [glue_tk HA.out HB.out hq]⟩ h1)
      clear hno hown h1 hlen
      go_wp2
      go_ret
      exact ⟨ret_bool HE.out.symm, hb1⟩
end Go.Proofs.YtagppgncanimaaaGreatDoor
namespace Go.Proofs.YtagppgncanimaaaGreatDoor
open Go.RowKit

set_option maxHeartbeats 1000000 in
theorem RSay_none (ao : Option Addr) (cap : Nat) (w : World) : Calls Tryz.prog 29 #[.slice ao 0 cap] w fun e w' => e = .returned (.tuple #[.string (tx []), .int .i64 0]) ∧ Below w.heap.size w w' := by
  go_enter Tryz.func29, Tryz.ntmps29
  go_wp2
  refine wp_loop_rounds 1 ?_
  rw [rounds_succ]
  go_wp2
  refine wp_loop_rounds 1 ?_
  rw [rounds_succ]
  go_wp2
  go_ret2
  exact ⟨rfl, Below.refl _ _⟩

theorem tx_app (a b : List UInt8) : tx a ++ tx b = tx (a ++ b) := by
  apply ByteArray.ext
  simp

theorem two_kept {w w1 : World} {g a b : Nat} {u v : Value} (hg : g < w.heap.size) (h1 : w.cell? ⟨g, a, none⟩ = some u) (h2 : w.cell? ⟨g, b, none⟩ = some v) (hb : Below w.heap.size w w1) : w1.cell? ⟨g, a, none⟩ = some u ∧ w1.cell? ⟨g, b, none⟩ = some v :=
  ⟨(hb.cell (p := ⟨g, a, none⟩) hg).trans h1, (hb.cell (p := ⟨g, b, none⟩) hg).trans h2⟩

set_option maxRecDepth 4000 in
set_option maxHeartbeats 4000000 in
theorem RSay_some (ls : List (List UInt8)) (g o cap : Nat) (w : World) (hg : g < w.heap.size) (hc : ∀ i, i < ls.length → w.cell? ⟨g, o + i, none⟩ = some (.string (tx (ls.getD i [])))) (hn : ls.length ≤ 100000) (h4 : ∀ l ∈ ls, l.length ≤ 4000) :
    Calls Tryz.prog 29 #[.slice (some ⟨g, o, none⟩) ls.length cap] w fun e w' => e = .returned (.tuple #[.string (tx (sayS ls)), .int .i64 (sayE ls)]) ∧ Below w.heap.size w w' := by
  have HC := hid hc
  have H4 := hid h4
  clear hc h4
  obtain ⟨n, hnn⟩ : ∃ n, n = ls.length := ⟨_, rfl⟩
  have HN := hid hnn
  rw [← hnn] at hn ⊢
  clear hnn
  go_enter Tryz.func29, Tryz.ntmps29
  go_wp2
  go_loopw [4] (fun i wr => ∃ k : Nat, k ≤ n ∧ i = .int .i64 k ∧ Hid (∀ j, j < k → Wo.isW (ls.getD j []) = true) ∧ Hid (Below w.heap.size w wr)) (fun i _ => n - (intOf i).toNat)
  case atStart => exact ⟨0, Nat.zero_le _, rfl, fun j hj => absurd hj (Nat.not_lt_zero j), Below.refl _ _⟩
  case round =>
    obtain ⟨k, hk, rfl, HW, HL⟩ := hrel
    by_cases hlt : k < n
    · have ck : wr.cell? ⟨g, o + k, none⟩ = some (.string (tx (ls.getD k []))) := by rw [HL.out.cell (by exact hg)]; exact HC.out k (by rw [← HN.out]; exact hlt)
      obtain ⟨x, hx⟩ : ∃ x, x = ls.getD k [] := ⟨_, rfl⟩
      have hxl := getD_len ls H4.out k
      rw [← hx] at ck hxl
      have HX := hid hx
      clear hx
      have hkI : (0 : Int) ≤ (k : Int) := by omega
      have hkI2 : (k : Int) < (n : Int) := by omega
      have q := fun w => Rword_any x w (by omega)
      rcases bool_two (Wo.isW x) with h1 | h1
      · have HE := hid (show allW ls = false by
          cases hq : allW ls with
          | false => rfl
          | true => have := allW_getD.1 hq k (by rw [← HN.out]; exact hlt); rw [← HX.out, h1] at this; exact absurd this (by simp))
        rw [h1] at q
        clear h1
        go_wp2_with (go_at_call 54; refine (q _).mono ?_; rintro e w1 ⟨rfl, hb1⟩)
        go_ret2
        refine ⟨?_, HL.out.trans (hb1.mono HL.out.size)⟩
        unfold sayS sayE
        rw [HE.out]; rfl
      · have HW2 := hid (show ∀ j, j < k + 1 → Wo.isW (ls.getD j []) = true from fun j hj => by
          by_cases e : j = k
          · rw [e, ← HX.out]; exact h1
          · exact HW.out j (by omega))
        rw [h1] at q
        clear h1
        go_wp2_with (go_at_call 54; refine (q _).mono ?_; rintro e w1 ⟨rfl, hb1⟩)
        go_roundw
        case rel => exact ⟨k + 1, by omega, by go_num, HW2, HL.out.trans (hb1.mono HL.out.size)⟩
        case measure => simp [intOf]; omega
    · have HE := hid (show allW ls = true from allW_getD.2 (fun i hi => HW.out i (by rw [← HN.out] at hi; omega)))
      have HWA := hid (show ∀ j, j < n → Wo.isW (ls.getD j []) = true from fun j hj => HW.out j (by omega))
      clear HW
      rename World => wo
      go_wp2
      go_loopw [5, 6] (fun s i wr => ∃ k : Nat, k ≤ n ∧ i = .int .i64 k ∧ s = .string (tx (Wo.sayTo ls k)) ∧ Hid (Below w.heap.size w wr)) (fun _ i _ => n - (intOf i).toNat)
      case atStart => exact ⟨0, Nat.zero_le _, rfl, rfl, HL⟩
      case round =>
        obtain ⟨k, hk, rfl, rfl, HL2⟩ := hrel
        have hsl := sayTo_len ls H4.out k
        by_cases hlt : k < n
        · have ck : wr.cell? ⟨g, o + k, none⟩ = some (.string (tx (ls.getD k []))) := by rw [HL2.out.cell (by exact hg)]; exact HC.out k (by rw [← HN.out]; exact hlt)
          obtain ⟨x, hx⟩ : ∃ x, x = ls.getD k [] := ⟨_, rfl⟩
          have hxl := getD_len ls H4.out k
          have hxw := HWA.out k hlt
          rw [← hx] at ck hxl hxw
          have HX := hid hx
          have HXW := hid hxw
          clear hx hxw
          obtain ⟨t, ht⟩ : ∃ t, t = Wo.sayTo ls k := ⟨_, rfl⟩
          rw [← ht] at hsl ⊢
          have HT := hid ht
          clear ht
          have hkI : (0 : Int) ≤ (k : Int) := by omega
          have hkI2 : (k : Int) < (n : Int) := by omega
          have hov : ¬ 9223372036854775807 < t.length + x.length := by omega
          have hov1 : ¬ 9223372036854775807 < t.length + 1 := by omega
          have hov2 : ¬ 9223372036854775807 < t.length + 1 + x.length := by omega
          have hgr : g < wr.heap.size := Nat.lt_of_lt_of_le hg HL2.out.size
          by_cases hk0 : 0 < k
          · obtain ⟨y, hy⟩ : ∃ y, y = ls.getD (k - 1) [] := ⟨_, rfl⟩
            have cy : wr.cell? ⟨g, o + (k - 1), none⟩ = some (.string (tx y)) := by
              rw [HL2.out.cell (by exact hg), hy]
              exact HC.out (k - 1) (by rw [← HN.out]; omega)
            have hyl := getD_len ls H4.out (k - 1)
            have hyw := HWA.out (k - 1) (by omega)
            rw [← hy] at hyl hyw
            have hp1 : (0 : Int) ≤ (k : Int) - 1 := by omega
            have hp2 : (k : Int) - 1 < (n : Int) := by omega
            have hk0I : (0 : Int) < (k : Int) := by omega
            have hwr : IntKind.i64.wrap ((k : Int) - 1) = (k : Int) - 1 := by rw [IntKind.wrap_i64]; omega
            have hz1 : (1 : Int) ≤ (k : Int) := by omega
            have hz2 : 1 ≤ k := by omega
            have hz3 : (k : Int) < (n : Int) + 1 := by omega
            have hz4 : k < n + 1 := by omega
            have HY := hid hy
            have HYW := hid hyw
            clear hy hyw
            have q := fun w => Rglued_any y x w HYW.out HXW.out (by omega)
            rcases bool_two (Wo.glue y x) with h2 | h2
            · have HE0 := hid (show Wo.sayTo ls (k + 1) = t ++ x by
                show Wo.sayTo ls k ++ (if 0 < k ∧ Wo.glue (ls.getD (k - 1) []) (ls.getD k []) = true then [32] else []) ++ ls.getD k [] = _
                rw [← HX.out, ← HY.out, ← HT.out, h2, if_neg (by simp)]; simp)
              rw [h2] at q
              clear h2
              go_wp2_with fail
              go_region_held3 (fun w' => w'.cell? ⟨g, o + (k - 1), none⟩ = some (.string (tx y)) ∧ w'.cell? ⟨g, o + k, none⟩ = some (.string (tx x))) (first | (go_keep; done) | exact hcx) (first | (go_at_call 55; refine (q _).mono ?_; rintro e w1 ⟨rfl, hb1⟩; have hcx := two_kept hgr cy ck (undrew hb1)))
              have c1x := hcx.2
              go_wp2
              go_roundw
              case rel => exact ⟨k + 1, by omega, by go_num, by rw [HE0.out, ← tx_app], HL2.out.trans ((undrew hb1).mono HL2.out.size)⟩
              case measure => simp [intOf]; omega
            · have HE0 := hid (show Wo.sayTo ls (k + 1) = (t ++ [32]) ++ x by
                show Wo.sayTo ls k ++ (if 0 < k ∧ Wo.glue (ls.getD (k - 1) []) (ls.getD k []) = true then [32] else []) ++ ls.getD k [] = _
                rw [← HX.out, ← HY.out, ← HT.out, h2, if_pos ⟨hk0, rfl⟩])
              rw [h2] at q
              clear h2
              go_wp2_with fail
              go_region_held3 (fun w' => w'.cell? ⟨g, o + (k - 1), none⟩ = some (.string (tx y)) ∧ w'.cell? ⟨g, o + k, none⟩ = some (.string (tx x))) (first | (go_keep; done) | exact hcx) (first | (go_at_call 55; refine (q _).mono ?_; rintro e w1 ⟨rfl, hb1⟩; have hcx := two_kept hgr cy ck (undrew hb1)))
              have c1x := hcx.2
              go_wp2
              go_roundw
              case rel => exact ⟨k + 1, by omega, by go_num, by rw [HE0.out, ← tx_app, ← tx_app], HL2.out.trans ((undrew hb1).mono HL2.out.size)⟩
              case measure => simp [intOf]; omega
          · have HE0 := hid (show Wo.sayTo ls (k + 1) = t ++ x by
              show Wo.sayTo ls k ++ (if 0 < k ∧ Wo.glue (ls.getD (k - 1) []) (ls.getD k []) = true then [32] else []) ++ ls.getD k [] = _
              rw [← HX.out, ← HT.out, if_neg (by omega)]; simp)
            have hk0I : decide ((0 : Int) < (k : Int)) = false := decide_eq_false (by omega)
            go_wp2
            go_quiet (fail)
            go_wp2
            go_roundw
            case rel => exact ⟨k + 1, by omega, by go_num, by rw [HE0.out, ← tx_app], below_drewN HL2.out⟩
            case measure => simp [intOf]; omega
        · have HS := hid (show Wo.sayTo ls k = Wo.sayL ls by rw [show k = n by omega, HN.out]; exact Wo.sayTo_all ls)
          go_wp2
          go_ret2
          refine ⟨?_, HL2.out⟩
          unfold sayS sayE
          rw [HE.out, if_pos rfl, if_pos rfl, ← HS.out]
          rfl
end Go.Proofs.YtagppgncanimaaaGreatDoor
namespace Go.Proofs.YtagppgncanimaaaGreatDoor
open Go.RowKit

theorem RSay_any (v : Value) (ls : List (List UInt8)) (w : World) (h : Txs w v ls) (hn : ls.length ≤ 60) (h4 : ∀ l ∈ ls, l.length ≤ 4000) :
    Calls Tryz.prog 29 #[v] w fun e w' => e = .returned (.tuple #[.string (tx (sayS ls)), .int .i64 (sayE ls)]) ∧ Below w.heap.size w w' := by
  obtain ⟨ao, cap, rfl, hr⟩ := h
  rcases hr with rfl | ⟨g, o, rfl, hg, hc⟩
  · exact RSay_none ao cap w
  · exact RSay_some ls g o cap w hg hc (by omega) h4

theorem RSay_anyL (v : Value) (ls : List (List UInt8)) (w : World) (h : Txs w v ls) (hn : ls.length ≤ 200) (h4 : ∀ l ∈ ls, l.length ≤ 4000) :
    Calls Tryz.prog 29 #[v] w fun e w' => e = .returned (.tuple #[.string (tx (sayS ls)), .int .i64 (sayE ls)]) ∧ Below w.heap.size w w' := by
  obtain ⟨ao, cap, rfl, hr⟩ := h
  rcases hr with rfl | ⟨g, o, rfl, hg, hc⟩
  · exact RSay_none ao cap w
  · exact RSay_some ls g o cap w hg hc (by omega) h4
theorem RSay_anyX (v : Value) (ls : List (List UInt8)) (w : World) (h : Txs w v ls) (hn : ls.length ≤ 100000) (h4 : ∀ l ∈ ls, l.length ≤ 4000) :
    Calls Tryz.prog 29 #[v] w fun e w' => e = .returned (.tuple #[.string (tx (sayS ls)), .int .i64 (sayE ls)]) ∧ Below w.heap.size w w' := by
  obtain ⟨ao, cap, rfl, hr⟩ := h
  rcases hr with rfl | ⟨g, o, rfl, hg, hc⟩
  · exact RSay_none ao cap w
  · exact RSay_some ls g o cap w hg hc hn h4

end Go.Proofs.YtagppgncanimaaaGreatDoor
namespace Go.Proofs.YtagppgncanimaaaGreatDoor
open Go.RowKit

theorem Tryz.infoStrX : (Tryz.prog.info? 9).map (fun i => (i.zero, i.size, i.bytes)) = some (some (.string ByteArray.empty), 1, 16) := by kernel_rfl
theorem svs_oneX {zs : List (List UInt8)} : ∀ u ∈ svs zs, u.oneCell' = true := by
  intro u hu
  obtain ⟨z, _, rfl⟩ := List.mem_map.1 hu
  rfl
theorem svs_appX (a b : List (List UInt8)) : svs (a ++ b) = svs a ++ svs b := by simp [svs]
theorem svs_lenX (a : List (List UInt8)) : (svs a).length = a.length := by simp [svs]
theorem own_someX {w : World} {B : Nat} {v : Value} {n : Nat} {xs : List Value} (h : w.ownsRow B 9 1 v n xs) (hn : 0 < n) : ∃ g cap, v = .slice (some ⟨g, 0, none⟩) n cap ∧ B ≤ g ∧ g < w.heap.size ∧ ∀ (j : Nat) (u : Value), xs[j]? = some u → w.cell? ((⟨g, 0, none⟩ : Addr).add j) = some u := by
  rcases h.2 with ⟨_, e⟩ | ⟨g, cap, cur, rfl, hB, hh, hc, _, hz, ht⟩
  · omega
  · refine ⟨g, cap, rfl, hB, lt_of_block hh, fun j u hu => ?_⟩
    have e : (⟨g, 0, none⟩ : Addr).add j = ⟨g, j, none⟩ := by unfold Addr.add; split <;> simp_all
    rw [e, cell_at hh]
    rw [← ht] at hu
    rw [List.getElem?_take] at hu
    split at hu
    · rw [Array.getElem?_toList] at hu
      exact hu
    · cases hu
theorem own_keepX {w w' : World} {B n : Nat} {v : Value} {xs : List Value} (h : w.ownsRow B 9 1 v n xs) (hb : Below w.heap.size w w') : w'.ownsRow B 9 1 v n xs :=
  h.kept (grown_of_below none hb) (by rcases hv : v.ownBlock with _ | z; exact Or.inl rfl; exact Or.inr (by simp))
/-- What a call that tells words leaves. -/
def WdsPost (w : World) (l : List (List UInt8)) (en : Ending) (w' : World) : Prop := ∃ u, en = .returned u ∧ w'.ownsRow w.heap.size 9 1 u l.length (svs l) ∧ Below w.heap.size w w'
/-- wordsOf, at an expression that lies in w. -/
def WordsC (w : World) (k : Rx) (v : Value) : Prop := ∀ W, Below w.heap.size w W → Calls Tryz.prog 28 #[.agg #[.int .i64 k.op, .string (tx k.name), v]] W fun en W' => WdsPost W k.wds en W'

set_option maxRecDepth 20000 in
set_option maxHeartbeats 2000000 in
theorem kidWords_any {w : World} {v : Value} {k : Rx} {least : Nat} (hS : RxS w v k.kids) (hp : 1 ≤ k.wds.length) (hl : k.wds.length ≤ 1000000) (hW : WordsC w k v) (_hle : least ≤ 2) :
    Calls Tryz.prog 52 #[.agg #[.int .i64 k.op, .string (tx k.name), v], .int .i64 least] w fun en w' => WdsPost w (kwd least (tg k) k.wds) en w' := by
  obtain ⟨i0, hi, hz0, hz1, hz2⟩ := info_parts Tryz.infoStrX
  have HI := hid hi
  have HZ0 := hid hz0
  have HZ1 := hid hz1
  have HZ2 := hid hz2
  clear hi hz0 hz1 hz2
  have HWO := hid hW
  have HTG := hid (fun (W : World) (hb : Below w.heap.size w W) => tight_any (r := k) (hS.on hb))
  obtain ⟨ao, cap, rfl, -⟩ := hS.at
  have HB0 := hid (boxed.start w k (.slice ao k.kids.length cap))
  obtain ⟨l, hll⟩ : ∃ l, l = k.wds := ⟨_, rfl⟩
  obtain ⟨t, htt⟩ : ∃ t, t = tg k := ⟨_, rfl⟩
  have HLL := hid hll
  unfold WordsC at HWO
  rw [← hll] at HWO hp hl ⊢
  rw [← htt] at HTG ⊢
  obtain ⟨n, hn⟩ : ∃ n, n = l.length := ⟨_, rfl⟩
  have HN := hid hn
  rw [← hn] at hp hl
  clear hS hW hll htt hn
  go_enter Tryz.func52, Tryz.ntmps52
  go_wp2_with fail
  refine (HWO.out _ ((Below.refl _ _).alloc (Nat.le_refl _) _)).mono ?_
  rintro en w1 ⟨u1, rfl, hown1, hb1⟩
  have B1 := hid (HB0.out.on hb1)
  obtain ⟨c0, c1, c2⟩ := B1.out.cells
  rw [← HN.out] at hown1
  obtain ⟨g1, cap1, rfl, hg1, _⟩ := own_someX hown1 (by omega)
  have O1 := hid (hown1.mono (show w.heap.size ≤ _ by simp))
  clear hown1 hb1 hg1
  go_wp2_with fail
  refine (HTG.out _ B1.out.low).mono ?_
  rintro en w2 ⟨rfl, hb2⟩
  have B2 := hid (B1.out.on hb2)
  have O2 := hid (own_keepX O1.out hb2)
  clear hb2 c0 c1 c2 O1
  by_cases hlt : least ≤ t
  · have hI : (least : Int) ≤ (t : Int) := by omega
    have HE := hid (show kwd least t l = l by unfold kwd; rw [if_pos hlt])
    go_wp2
    go_ret
    rw [HE.out]
    exact ⟨_, rfl, by rw [← HN.out]; exact O2.out, B2.out.low⟩
  · have hI : ¬ ((least : Int) ≤ (t : Int)) := by omega
    have HE := hid (show kwd least t l = [40] :: (l ++ [[41]]) by unfold kwd; rw [if_neg hlt])
    obtain ⟨g1', cap1', e1, hB1, hg1, hc1⟩ := own_someX O2.out (by omega)
    injection e1 with e1 _ e2
    injection e1 with e1
    injection e1 with e1
    subst e1 e2
    have N1 := hid (fun j u (hu : (svs l)[j]? = some u) => (by
      have h0 := hc1 j u hu
      have e : (⟨g1, 0, none⟩ : Addr).add j = ⟨g1, j, none⟩ := by unfold Addr.add; split <;> simp_all
      rw [e] at h0 ⊢
      rw [((Below.refl w2.heap.size w2).alloc (Nat.le_refl _) (.cells #[.string (tx [40])] 9)).cell (by exact hg1)]
      exact h0 : (w2.alloc (.cells #[.string (tx [40])] 9)).cell? ((⟨g1, 0, none⟩ : Addr).add j) = some u))
    have hsz := B2.out.low.size
    have OA := hid (show (w2.alloc (.cells #[.string (tx [40])] 9)).ownsRow w.heap.size 9 1 (.slice (some ⟨w2.heap.size, 0, none⟩) 1 1) 1 (svs [[40]]) from ⟨rfl, Or.inr ⟨w2.heap.size, 1, #[.string (tx [40])], rfl, hsz, new_0 _ _, Nat.le_refl _, by decide, rfl, rfl⟩⟩)
    have HSL := hid (show (svs l).length = n by rw [svs_lenX]; exact HN.out.symm)
    clear hc1
    go_wp2_with (first | (at_builtin; refine wpList_append_own_at _ rfl _ _ 47 rfl w.heap.size 9 i0 (.string ByteArray.empty) 1 16 Tryz.underlying47 HI.out HZ0.out HZ1.out HZ2.out rfl (by decide) (.slice (some ⟨w2.heap.size, 0, none⟩) 1 1) 1 (svs [[40]]) rfl OA.out ⟨g1, 0, none⟩ n cap1 (svs l) rfl (by rw [HSL.out, Nat.mul_one]) N1.out svs_oneX ?c3 ?c4 ?c5 ?_))
    case c3 => unfold maxLen; omega
    case c4 => omega
    case c5 => simp only [World.size_alloc]; omega
    intro v3 w3 hown3 hgrow3 _ _
    obtain ⟨a3, c3, rfl⟩ := own_form hown3
    have B3 := hid (show Below w.heap.size w w3 from (B2.out.low.alloc B2.out.low.size _).grown hgrow3 (by simp only [World.size_alloc]; omega) (fun q hq => by simp [Value.ownBlock] at hq; omega))
    have O3 := hid hown3
    have hsz3 := B3.out.size
    clear hown3 hgrow3
    go_wp2_with (first | (at_builtin; refine wpList_append_own_at _ rfl _ _ 47 rfl w.heap.size 9 i0 (.string ByteArray.empty) 1 16 Tryz.underlying47 HI.out HZ0.out HZ1.out HZ2.out rfl (by decide) (.slice a3 (1 + n) c3) (1 + n) (svs [[40]] ++ svs l) rfl (O3.out.alloc _) ⟨w3.heap.size, 0, none⟩ 1 1 [.string (tx [41])] rfl rfl (new_cells _ #[.string (tx [41])] _ _ rfl) ?d2 ?d3 ?d4 ?d5 ?_))
    case d2 => simp [Value.oneCell']
    case d3 => unfold maxLen; omega
    case d4 => omega
    case d5 => simp only [World.size_alloc]; omega
    intro v4 w4 hown4 hgrow4 _ _
    obtain ⟨a4, c4, rfl⟩ := own_form hown4
    have B4 := hid (show Below w.heap.size w w4 from (B3.out.alloc B3.out.size _).grown hgrow4 (by simp only [World.size_alloc]; omega) (fun q hq => (O3.out.lt q hq).1))
    have O4 := hid (show w4.ownsRow w.heap.size 9 1 (.slice a4 (1 + n + 1) c4) ([40] :: (l ++ [[41]])).length (svs ([40] :: (l ++ [[41]]))) from by
      have e1 : svs ([40] :: (l ++ [[41]])) = svs [[40]] ++ svs l ++ [.string (tx [41])] := by simp [svs]
      have e2 : ([40] :: (l ++ [[41]])).length = 1 + n + 1 := by rw [HN.out]; simp; omega
      rw [e1, e2]
      exact hown4)
    clear hown4 hgrow4
    go_wp2
    go_ret
    rw [HE.out]
    exact ⟨_, rfl, O4.out, B4.out⟩
end Go.Proofs.YtagppgncanimaaaGreatDoor
namespace Go.Proofs.YtagppgncanimaaaGreatDoor
open Go.RowKit

/-- The blocks of K stay. -/
def KeepK (K : Nat → Prop) (w w' : World) : Prop := w.heap.size ≤ w'.heap.size ∧ ∀ g, K g → g < w.heap.size → w'.heap[g]? = w.heap[g]?
theorem KeepK.refl (K : Nat → Prop) (w : World) : KeepK K w w := ⟨Nat.le_refl _, fun _ _ _ => rfl⟩
theorem KeepK.trans {K : Nat → Prop} {a b c : World} (h : KeepK K a b) (k : KeepK K b c) : KeepK K a c := ⟨Nat.le_trans h.1 k.1, fun g hg hl => (k.2 g hg (Nat.lt_of_lt_of_le hl h.1)).trans (h.2 g hg hl)⟩
theorem KeepK.below {K : Nat → Prop} {w w' : World} (h : Below w.heap.size w w') : KeepK K w w' := ⟨h.size, fun g _ hl => h.block g hl⟩
theorem KeepK.grown {K : Nat → Prop} {w w' : World} {row : Option Nat} (h : w.grownBy w' row) (hr : ∀ g, row = some g → ¬ K g) : KeepK K w w' := ⟨h.size, fun g hg hl => h.block g hl (fun e => hr g e.symm hg)⟩
/-- A list of expressions, all of whose lists lie in blocks of K. -/
inductive RxK (K : Nat → Prop) (w : World) : Value → List Rx → Prop where
  | nil (ao : Option Addr) (cap : Nat) : RxK K w (.slice ao 0 cap) []
  | some (g o cap : Nat) (ks : List Rx) (vs : List Value) (hK : K g) (hg : g < w.heap.size) (hl : vs.length = ks.length)
      (hc : ∀ (i : Nat) (k : Rx) (v : Value), ks[i]? = .some k → vs[i]? = .some v → w.cell? ⟨g, o + i * 3, none⟩ = .some (.int .i64 k.op) ∧ w.cell? ⟨g, o + i * 3 + 1, none⟩ = .some (.string (tx k.name)) ∧ w.cell? ⟨g, o + i * 3 + 2, none⟩ = .some v)
      (hk : ∀ (i : Nat) (k : Rx) (v : Value), ks[i]? = .some k → vs[i]? = .some v → RxK K w v k.kids) : RxK K w (.slice (.some ⟨g, o, none⟩) ks.length cap) ks
theorem RxK.low {K : Nat → Prop} {w : World} {v : Value} {ks : List Rx} (h : RxK K w v ks) : RxS w v ks := by
  induction h with
  | nil ao cap => exact .nil ao cap
  | some g o cap ks vs _ hg hl hc _ ih => exact .some g o cap ks vs hg hl hc ih
theorem RxK.on {K : Nat → Prop} {w w' : World} {v : Value} {ks : List Rx} (h : RxK K w v ks) (hb : KeepK K w w') : RxK K w' v ks := by
  induction h with
  | nil ao cap => exact .nil ao cap
  | some g o cap ks vs hK hg hl hc _ ih =>
    refine .some g o cap ks vs hK (Nat.lt_of_lt_of_le hg hb.1) hl (fun i k v hk hv => ?_) ih
    obtain ⟨c0, c1, c2⟩ := hc i k v hk hv
    have e := hb.2 g hK hg
    exact ⟨(World.cell?_of_block (by exact e)).trans c0, (World.cell?_of_block (by exact e)).trans c1, (World.cell?_of_block (by exact e)).trans c2⟩
theorem RxK.mono {K K' : Nat → Prop} {w : World} {v : Value} {ks : List Rx} (h : RxK K w v ks) (hK : ∀ g, K g → K' g) : RxK K' w v ks := by
  induction h with
  | nil ao cap => exact .nil ao cap
  | some g o cap ks vs hg0 hg hl hc _ ih => exact .some g o cap ks vs (hK g hg0) hg hl hc ih
theorem RxK.form {K : Nat → Prop} {w : World} {v : Value} {ks : List Rx} (h : RxK K w v ks) : ∃ ao cap, v = .slice ao ks.length cap := by
  cases h with
  | nil ao cap => exact ⟨ao, cap, rfl⟩
  | some g o cap ks vs _ _ _ _ _ => exact ⟨_, cap, rfl⟩

/-- Expressions, each with the value of its list. -/
abbrev Prs := List (Rx × Value)
def flatP (ps : Prs) : List Value := ps.flatMap fun p => [.int .i64 p.1.op, .string (tx p.1.name), p.2]
theorem flatP_nil : flatP [] = [] := rfl
theorem flatP_cons (p : Rx × Value) (ps : Prs) : flatP (p :: ps) = .int .i64 p.1.op :: .string (tx p.1.name) :: p.2 :: flatP ps := rfl
theorem flatP_app (a b : Prs) : flatP (a ++ b) = flatP a ++ flatP b := by simp [flatP]
theorem flatP_len (ps : Prs) : (flatP ps).length = ps.length * 3 := by
  induction ps with
  | nil => rfl
  | cons p t ih => rw [flatP_cons]; simp [ih]; omega
theorem flatP_at (ps : Prs) : ∀ {i : Nat} {p : Rx × Value}, ps[i]? = some p → (flatP ps)[i * 3]? = some (.int .i64 p.1.op) ∧ (flatP ps)[i * 3 + 1]? = some (.string (tx p.1.name)) ∧ (flatP ps)[i * 3 + 2]? = some p.2 := by
  induction ps with
  | nil => intro i p h; simp at h
  | cons q t ih =>
    intro i p h
    cases i with
    | zero => simp at h; subst h; exact ⟨rfl, rfl, rfl⟩
    | succ i =>
      have := ih (i := i) (p := p) (by simpa using h)
      rw [flatP_cons]
      rw [show (i + 1) * 3 = i * 3 + 1 + 1 + 1 by omega, show (i * 3 + 1 + 1 + 1) + 1 = (i * 3 + 1) + 1 + 1 + 1 by omega, show (i * 3 + 1 + 1 + 1) + 2 = (i * 3 + 2) + 1 + 1 + 1 by omega]
      simpa only [List.getElem?_cons_succ] using this
theorem flatP_one {ps : Prs} (h : ∀ p ∈ ps, p.2.oneCell' = true) : ∀ u ∈ flatP ps, u.oneCell' = true := by
  intro u hu
  obtain ⟨p, hp, hq⟩ := List.mem_flatMap.1 hu
  simp at hq
  rcases hq with rfl | rfl | rfl
  · rfl
  · rfl
  · exact h p hp
/-- Expressions that lie somewhere; their own lists lie in blocks of K. -/
structure LieX (K : Nat → Prop) (w : World) (v : Value) (ps : Prs) : Prop where
  form : ∃ ao cap, v = .slice ao ps.length cap ∧ (ps = [] ∨ ∃ g o, ao = some ⟨g, o, none⟩ ∧ g < w.heap.size ∧ ∀ (i : Nat) (p : Rx × Value), ps[i]? = some p → w.cell? ⟨g, o + i * 3, none⟩ = some (.int .i64 p.1.op) ∧ w.cell? ⟨g, o + i * 3 + 1, none⟩ = some (.string (tx p.1.name)) ∧ w.cell? ⟨g, o + i * 3 + 2, none⟩ = some p.2)
  kids : ∀ p ∈ ps, RxK K w p.2 p.1.kids
theorem RxK.lie {K : Nat → Prop} {w : World} {v : Value} {ks : List Rx} (h : RxK K w v ks) : ∃ ps : Prs, ps.map Prod.fst = ks ∧ LieX K w v ps := by
  cases h with
  | nil ao cap => exact ⟨[], rfl, ⟨ao, cap, rfl, Or.inl rfl⟩, fun p hp => absurd hp (by simp)⟩
  | some g o cap ks vs hK hg hl hc hk =>
    refine ⟨ks.zip vs, List.map_fst_zip (by omega), ⟨_, cap, by simp [hl], Or.inr ⟨g, o, rfl, hg, fun i p hp => ?_⟩⟩, fun p hp => ?_⟩
    · obtain ⟨h1, h2⟩ := List.getElem?_zip_eq_some.1 hp
      exact hc i p.1 p.2 h1 h2
    · obtain ⟨i, hi⟩ := List.getElem?_of_mem hp
      obtain ⟨h1, h2⟩ := List.getElem?_zip_eq_some.1 hi
      exact hk i p.1 p.2 h1 h2
/-- A row of expressions of one's own. -/
structure RowX (K : Nat → Prop) (w : World) (B : Nat) (v : Value) (ps : Prs) : Prop where
  own : w.ownsRow B 25 3 v ps.length (flatP ps)
  kids : ∀ p ∈ ps, RxK K w p.2 p.1.kids
theorem RowX.nil (K : Nat → Prop) (w : World) (B : Nat) : RowX K w B (.slice none 0 0) [] := ⟨World.ownsRow_nil _ _ _ _, fun p hp => absurd hp (by simp)⟩
theorem RowX.mono {K K' : Nat → Prop} {w : World} {B B' : Nat} {v : Value} {ps : Prs} (h : RowX K w B v ps) (hK : ∀ g, K g → K' g) (hB : B' ≤ B) : RowX K' w B' v ps := ⟨h.own.mono hB, fun p hp => (h.kids p hp).mono hK⟩
theorem RowX.on {K : Nat → Prop} {w w' : World} {B : Nat} {v : Value} {ps : Prs} (h : RowX K w B v ps) (hb : KeepK K w w') (hv : ∀ g, v.ownBlock = some g → w'.heap[g]? = w.heap[g]?) : RowX K w' B v ps := by
  refine ⟨⟨h.own.1, ?_⟩, fun p hp => (h.kids p hp).on hb⟩
  rcases h.own.2 with hn | ⟨g, cap, cur, rfl, hB, hg, rest⟩
  · exact .inl hn
  · exact .inr ⟨g, cap, cur, rfl, hB, (hv g rfl).trans hg, rest⟩
theorem RowX.below {K : Nat → Prop} {w w' : World} {B : Nat} {v : Value} {ps : Prs} (h : RowX K w B v ps) (hb : Below w.heap.size w w') : RowX K w' B v ps := h.on (.below hb) fun g hg => hb.block g (h.own.lt g hg).2
theorem ownX_form {w : World} {B : Nat} {e : TypeId} {size : Nat} {v : Value} {n : Nat} {xs : List Value} (h : w.ownsRow B e size v n xs) (hn : 0 < n) : ∃ g cap, v = .slice (some ⟨g, 0, none⟩) n cap ∧ B ≤ g ∧ g < w.heap.size ∧ ∀ (j : Nat) (u : Value), xs[j]? = some u → w.cell? ⟨g, j, none⟩ = some u := by
  rcases h.2 with ⟨_, e⟩ | ⟨g, cap, cur, rfl, hB, hh, hc, _, hz, ht⟩
  · omega
  · refine ⟨g, cap, rfl, hB, (Array.getElem?_eq_some_iff.1 hh).1, fun j u hu => ?_⟩
    rw [cell_at hh]
    rw [← ht, List.getElem?_take] at hu
    split at hu
    · rw [Array.getElem?_toList] at hu
      exact hu
    · cases hu
theorem RowX.lie {K : Nat → Prop} {w : World} {B : Nat} {v : Value} {ps : Prs} (h : RowX K w B v ps) : LieX K w v ps := by
  refine ⟨?_, h.kids⟩
  by_cases h0 : ps = []
  · obtain ⟨ao, cap, e⟩ := own_form h.own
    exact ⟨ao, cap, e, Or.inl h0⟩
  · obtain ⟨g, cap, e, _, hg, hc⟩ := ownX_form h.own (List.length_pos_iff.2 h0)
    refine ⟨_, cap, e, Or.inr ⟨g, 0, rfl, hg, fun i p hp => ?_⟩⟩
    obtain ⟨a0, a1, a2⟩ := flatP_at ps hp
    rw [Nat.zero_add]
    exact ⟨hc _ _ a0, hc _ _ a1, hc _ _ a2⟩
theorem LieX.on {K : Nat → Prop} {w w' : World} {v : Value} {ps : Prs} (h : LieX K w v ps) (hb : Below w.heap.size w w') : LieX K w' v ps := by
  obtain ⟨ao, cap, e, q⟩ := h.form
  refine ⟨⟨ao, cap, e, ?_⟩, fun p hp => (h.kids p hp).on (.below hb)⟩
  rcases q with q | ⟨g, o, e2, hg, hc⟩
  · exact Or.inl q
  · refine Or.inr ⟨g, o, e2, Nat.lt_of_lt_of_le hg hb.size, fun i p hp => ?_⟩
    obtain ⟨c0, c1, c2⟩ := hc i p hp
    exact ⟨(hb.cell (by exact hg)).trans c0, (hb.cell (by exact hg)).trans c1, (hb.cell (by exact hg)).trans c2⟩
/-- A row, as a list of expressions. -/
theorem RowX.rxk {K K' : Nat → Prop} {w : World} {B : Nat} {v : Value} {ps : Prs} (h : RowX K w B v ps) (hK : ∀ g, K g → K' g) (hv : ∀ g, v.ownBlock = some g → K' g) : RxK K' w v (ps.map Prod.fst) := by
  by_cases h0 : ps = []
  · subst h0
    obtain ⟨ao, cap, e⟩ := own_form h.own
    rw [e]; exact .nil ao cap
  · obtain ⟨g, cap, e, _, hg, hc⟩ := ownX_form h.own (List.length_pos_iff.2 h0)
    rw [e, show ps.length = (ps.map Prod.fst).length by simp]
    refine .some g 0 cap _ (ps.map Prod.snd) (hv g (by rw [e]; rfl)) hg (by simp) (fun i k u hk hu => ?_) (fun i k u hk hu => ?_)
    · rw [List.getElem?_map, Option.map_eq_some_iff] at hk hu
      obtain ⟨p, hp, rfl⟩ := hk
      obtain ⟨q, hq, rfl⟩ := hu
      rw [hp] at hq
      cases hq
      obtain ⟨a0, a1, a2⟩ := flatP_at ps hp
      rw [Nat.zero_add]
      exact ⟨hc _ _ a0, hc _ _ a1, hc _ _ a2⟩
    · rw [List.getElem?_map, Option.map_eq_some_iff] at hk hu
      obtain ⟨p, hp, rfl⟩ := hk
      obtain ⟨q, hq, rfl⟩ := hu
      rw [hp] at hq
      cases hq
      exact (h.kids p (List.mem_of_getElem? hp)).mono hK

theorem run_app_noneX {P : Program} {w : World} (base : Nat) (t ty e : TypeId) (i : TypeInfo) (size c : Nat) (ht : P.underlying t = some (.slice e)) (hi : P.info? e = some i)
    (v : Value) (n : Nat) (xs : List Value) (hown : w.ownsRow base e size v n xs) :
    (Builtin.append_ #[t, t] ty #[v, .slice none 0 c]).run P w = .ok v w := by
  rcases hown.2 with ⟨rfl, rfl⟩ | ⟨g, cap, cur, rfl, _, _, hnc, _⟩
  · simp [Builtin.append_, run_underlying ht, sizeOf, typeInfo, hi, Builtin.lenOf, Builtin.firstCells]
  · simp [Builtin.append_, run_underlying ht, sizeOf, typeInfo, hi, Builtin.lenOf, Builtin.firstCells, hnc, storeCells]
theorem wpList_append_srcX {P : Program} (w : World) {ops : Array Oper} {rest : List Oper} {o : Oper} {a : Act} {Q : Exit → Act → World → Prop} (hgd : o.guard = none) (s x : Operand) (t : TypeId)
    (ho : o.op = .call { callee := .builtin .append, args := #[s, x], argTypes := #[t, t] })
    (base : Nat) (e : TypeId) (i : TypeInfo) (z : Value) (size bytes : Nat) (ht : P.underlying t = some (.slice e)) (hi : P.info? e = some i) (hz : i.zero = some z)
    (hsize : i.size = size) (hby : i.bytes = bytes) (hzs : z.cells.size = size) (hsz : 0 < size)
    (v : Value) (n : Nat) (xs : List Value) (hs : a.eval s = v) (hown : w.ownsRow base e size v n xs)
    (vx : Value) (m : Nat) (news : List Value) (hx : a.eval x = vx) (hsrc : (∃ c, vx = .slice none 0 c ∧ m = 0 ∧ news = []) ∨ ∃ ad c, vx = .slice (some ad) m c ∧ news.length = m * size ∧ ∀ j u, news[j]? = some u → w.cell? (ad.add j) = some u) (h1 : ∀ u ∈ news, u.oneCell' = true)
    (h63 : n + m ≤ maxLen) (hbytes : (n + m) * bytes ≤ 140737488355328) (hbase : base ≤ w.heap.size)
    (h : ∀ v' w', w'.ownsRow base e size v' (n + m) (xs ++ news) → w.grownBy w' v.ownBlock → (v'.ownBlock = v.ownBlock ∨ v'.ownBlock = some w.heap.size) → wpList P ops Q rest (a.put o.dst v') w') :
    wpList P ops Q (o :: rest) a w := by
  rcases hsrc with ⟨c, rfl, rfl, rfl⟩ | ⟨ad, c, rfl, hl, hc⟩
  · refine wpList_plain hgd fun K hK => ?_
    have hrun := run_app_noneX (P := P) (w := w) base t o.type e i size c ht hi v n xs hown
    unfold Oper.wp
    simp [execOp, ho, resolve, invoke, builtin, hs, hx, hrun, Result.andThen]
    exact hK _ _ (h v w (by simpa using hown) ⟨rfl, rfl, rfl, Nat.le_refl _, fun _ _ _ => rfl⟩ (Or.inl rfl))
  · refine wpList_append_own_at w hgd s x t ho base e i z size bytes ht hi hz hsize hby hzs hsz v n xs hs hown ad m c news hx hl hc h1 h63 hbytes hbase ?_
    intro v' w' h1 h2 _ h4
    exact h v' w' h1 h2 h4
theorem Tryz.infoRegX : (Tryz.prog.info? 25).map (fun i => (i.zero, i.size, i.bytes)) = some (some (.agg #[.int .i64 0, .string (tx []), .slice none 0 0]), 3, 48) := by kernel_rfl
theorem LieX.src {K : Nat → Prop} {w : World} {v : Value} {ps : Prs} (h : LieX K w v ps) : (∃ c, v = .slice none 0 c ∧ ps.length = 0 ∧ flatP ps = []) ∨ ∃ ad c, v = .slice (some ad) ps.length c ∧ (flatP ps).length = ps.length * 3 ∧ ∀ j u, (flatP ps)[j]? = some u → w.cell? (ad.add j) = some u := by
  obtain ⟨ao, cap, e, q⟩ := h.form
  rcases q with rfl | ⟨g, o, rfl, hg, hc⟩
  · cases ao with
    | none => exact Or.inl ⟨cap, e, rfl, rfl⟩
    | some ad => exact Or.inr ⟨ad, cap, e, rfl, fun j u hu => by simp [flatP] at hu⟩
  · refine Or.inr ⟨_, cap, e, flatP_len ps, fun j u hu => ?_⟩
    have hj : j < ps.length * 3 := by rw [← flatP_len]; exact (List.getElem?_eq_some_iff.1 hu).1
    obtain ⟨p, hp⟩ : ∃ p, ps[j / 3]? = some p := ⟨ps[j / 3]'(by omega), List.getElem?_eq_getElem _⟩
    obtain ⟨c0, c1, c2⟩ := hc _ p hp
    obtain ⟨a0, a1, a2⟩ := flatP_at ps hp
    have e : (⟨g, o, none⟩ : Addr).add j = ⟨g, o + j, none⟩ := by unfold Addr.add; split <;> simp_all
    rw [e]
    have h3 : j = j / 3 * 3 ∨ j = j / 3 * 3 + 1 ∨ j = j / 3 * 3 + 2 := by omega
    rcases h3 with h3 | h3 | h3
    · rw [h3] at hu ⊢
      rw [a0] at hu; rw [← hu]; exact c0
    · generalize hq : j / 3 = q at *
      subst h3
      rw [a1] at hu; rw [← hu, ← Nat.add_assoc]; exact c1
    · generalize hq : j / 3 = q at *
      subst h3
      rw [a2] at hu; rw [← hu, ← Nat.add_assoc]; exact c2
theorem LieX.one {K : Nat → Prop} {w : World} {v : Value} {ps : Prs} (h : LieX K w v ps) : ∀ u ∈ flatP ps, u.oneCell' = true := flatP_one fun p hp => by
  obtain ⟨ao, cap, e⟩ := (h.kids p hp).form
  rw [e]; rfl
end Go.Proofs.YtagppgncanimaaaGreatDoor
