/-
  The program's nodeMayBe.
  The program's hasKid.
  The document's node, none, right, Size and Check: which expressions may be.
  Sign, Name, Number: the document's own; the law WordsKinds.
  Names, numbers, signs: the document's own.
  Names, numbers, signs: the program's.
-/
import Derived.Test.YtagppgncanimaaaGreatDoorWBuildAnd
namespace Go.Proofs.YtagppgncanimaaaGreatDoor
open Go.RowKit

theorem headD_at (s : ByteArray) (h : 0 < s.size) : s.data.toList.headD 0 = s[0] := by
  have := drop_at s 0 h
  rw [List.drop_zero] at this
  rw [this]; rfl
theorem take_snoc (s : ByteArray) (k : Nat) (h : k < s.size) : s.data.toList.take (k + 1) = s.data.toList.take k ++ [s[k]] := by
  rw [List.take_succ_eq_append_getElem (by simpa using h)]; rfl
theorem take_all (s : ByteArray) {k : Nat} (h : s.size ≤ k) : s.data.toList.take k = s.data.toList := List.take_of_length_le (by rw [list_size]; exact h)

set_option maxHeartbeats 1000000 in
theorem Name_any (s : ByteArray) (w : World) (hs : s.size ≤ maxLen) : Calls Tryz.prog 82 #[.string s] w fun e w' => e = .returned (.bool (Wo.nameB s.data.toList)) ∧ w' = w := by
  by_cases h0 : s.size = 0
  · have HI := hid (show Wo.nameB s.data.toList = false by rw [empty_of_size h0]; rfl)
    have hn : (s.toList == []) = true := by rw [toList_nil, h0]; rfl
    clear h0
    go_enter Tryz.func82, Tryz.ntmps82
    go_wp2
    go_ret
    exact ⟨ret_bool HI.out.symm, rfl⟩
  · have hn : (s.toList == []) = false := by rw [toList_nil]; exact decide_eq_false h0
    have hp : 0 < s.size := by omega
    have hh := headD_at s hp
    have hne : s.data.toList ≠ [] := fun e => h0 (by rw [Lib.size_eq, e]; rfl)
    by_cases h64 : 64 < s.size
    · have HI := hid (show Wo.nameB s.data.toList = false from decide_eq_false (fun h => by have := h.2.1; rw [list_size] at this; omega))
      have hI : (64 : Int) < (s.size : Int) := by omega
      clear h0 hh hne
      go_enter Tryz.func82, Tryz.ntmps82
      go_wp2
      go_ret
      exact ⟨ret_bool HI.out.symm, rfl⟩
    · have hI : decide ((64 : Int) < (s.size : Int)) = false := decide_eq_false (by omega)
      rcases bool_two (Wo.dg (s[0]'hp).toNat) with h1 | h1
      · have q : ∀ w, Calls Tryz.prog 109 #[bv (s[0]'hp)] w fun e w' => e = .returned (.bool false) ∧ w' = w := fun w => h1 ▸ digit_any (s[0]'hp) w
        by_cases h45 : (s[0]'hp).toNat = 45
        · have HI := hid (show Wo.nameB s.data.toList = false from decide_eq_false (fun h => by have := h.2.2.2.1; rw [hh] at this; exact this h45))
          have hc : (((s[0]'hp).toNat : Int) == 45) = true := by rw [beq_iff_eq]; omega
          clear h0 hh hne h1 h45
          go_enter Tryz.func82, Tryz.ntmps82
          go_wp2_with (go_at_call 109; refine (q _).mono ?_; rintro e w' ⟨rfl, rfl⟩)
          go_ret
          exact ⟨ret_bool HI.out.symm, rfl⟩
        · have hc : (((s[0]'hp).toNat : Int) == 45) = false := by rw [beq_eq_false_iff_ne]; omega
          have HI := hid (show Wo.nameB s.data.toList = ((Wo.lets s.data.toList : Int) == (s.size : Int)) by
            unfold Wo.nameB
            rw [Bool.eq_iff_iff, decide_eq_true_iff, beq_iff_eq, hh, ← Wo.lets_all, list_size]
            exact ⟨fun h => by have := h.2.2.2.2; omega, fun h => ⟨hne, by omega, h1, h45, by omega⟩⟩)
          clear h0 hh hne h1 h45
          go_enter Tryz.func82, Tryz.ntmps82
          go_wp2_with (first | (go_at_call 109; refine (q _).mono ?_; rintro e w' ⟨rfl, rfl⟩) | (go_at_call 104; refine (letters_any s _ hs).mono ?_; rintro e w' ⟨rfl, rfl⟩))
          go_ret
          exact ⟨ret_bool HI.out.symm, rfl⟩
      · have q : ∀ w, Calls Tryz.prog 109 #[bv (s[0]'hp)] w fun e w' => e = .returned (.bool true) ∧ w' = w := fun w => h1 ▸ digit_any (s[0]'hp) w
        have HI := hid (show Wo.nameB s.data.toList = false from decide_eq_false (fun h => by have := h.2.2.1; rw [hh, h1] at this; exact absurd this (by simp)))
        clear h0 hh hne h1
        go_enter Tryz.func82, Tryz.ntmps82
        go_wp2_with (go_at_call 109; refine (q _).mono ?_; rintro e w' ⟨rfl, rfl⟩)
        go_ret
        exact ⟨ret_bool HI.out.symm, rfl⟩

theorem all_cut {l : List UInt8} {f : UInt8 → Bool} {k : Nat} (h : l.all f = true) : (l.take k).all f = true := by
  rw [List.all_eq_true] at h ⊢
  exact fun x hx => h x (List.mem_of_mem_take hx)
theorem all_at {s : ByteArray} {f : UInt8 → Bool} {k : Nat} (h : s.data.toList.all f = true) (hk : k < s.size) : f (s[k]'hk) = true := by
  rw [List.all_eq_true] at h
  exact h _ (by have : s[k]'hk = s.data.toList[k]'(by rw [list_size]; exact hk) := rfl
                rw [this]; exact List.getElem_mem _)

end Go.Proofs.YtagppgncanimaaaGreatDoor
namespace Go.Proofs.YtagppgncanimaaaGreatDoor
open Go.RowKit

set_option maxHeartbeats 400000 in
theorem Rdigit_any (c : UInt8) (w : World) : Calls Tryz.prog 113 #[bv c] w fun e w' => e = .returned (.bool (Wo.dg c.toNat)) ∧ w' = w := by
  go_enter Tryz.func113, Tryz.ntmps113
  go_wp2
  all_goals
    go_ret
    refine ⟨ret_bool ?_, rfl⟩
    rw [Bool.eq_iff_iff]
    simp only [Wo.dg, decide_eq_true_eq, Bool.false_eq_true, false_iff]
    omega

set_option maxHeartbeats 1000000 in
theorem Rletter_any (c : UInt8) (w : World) : Calls Tryz.prog 112 #[bv c] w fun e w' => e = .returned (.bool (Wo.ltr c.toNat)) ∧ w' = w := by
  go_enter Tryz.func112, Tryz.ntmps112
  go_wp2_with (go_at_call 113; refine (Rdigit_any c _).mono ?_; rintro e w' ⟨rfl, rfl⟩)
  all_goals
    go_ret
    refine ⟨ret_bool ?_, rfl⟩
    try simp only [Wo.dg, decide_eq_true_eq] at *
    rw [Bool.eq_iff_iff]
    simp only [Wo.ltr, Bool.or_eq_true, decide_eq_true_eq, beq_iff_eq, true_iff]
    omega

abbrev tbl : ByteArray := ⟨#[40, 41, 44, 124, 42, 43, 63, 46, 36, 61, 60, 62]⟩
theorem sgl_tbl (x : Nat) : Wo.sgl x = true ↔ ∃ k, ∃ h : k < 12, (tbl[k]'h).toNat = x := by
  constructor
  · intro h
    simp [Wo.sgl] at h
    rcases h with h | h | h | h | h | h | h | h | h | h | h | h
    · exact ⟨0, by omega, h.symm⟩
    · exact ⟨1, by omega, h.symm⟩
    · exact ⟨2, by omega, h.symm⟩
    · exact ⟨3, by omega, h.symm⟩
    · exact ⟨4, by omega, h.symm⟩
    · exact ⟨5, by omega, h.symm⟩
    · exact ⟨6, by omega, h.symm⟩
    · exact ⟨7, by omega, h.symm⟩
    · exact ⟨8, by omega, h.symm⟩
    · exact ⟨9, by omega, h.symm⟩
    · exact ⟨10, by omega, h.symm⟩
    · exact ⟨11, by omega, h.symm⟩
  · rintro ⟨k, hk, rfl⟩
    have : k = 0 ∨ k = 1 ∨ k = 2 ∨ k = 3 ∨ k = 4 ∨ k = 5 ∨ k = 6 ∨ k = 7 ∨ k = 8 ∨ k = 9 ∨ k = 10 ∨ k = 11 := by omega
    rcases this with rfl | rfl | rfl | rfl | rfl | rfl | rfl | rfl | rfl | rfl | rfl | rfl <;> rfl

set_option maxHeartbeats 1000000 in
theorem single_any (c : UInt8) (w : World) : Calls Tryz.prog 107 #[bv c] w fun e w' => e = .returned (.bool (Wo.sgl c.toNat)) ∧ w' = w := by
  go_enter Tryz.func107, Tryz.ntmps107
  go_wp2
  go_loop [3] (fun i => ∃ k : Nat, k ≤ 12 ∧ i = .int .i64 k ∧ Hid (∀ j (h : j < 12), j < k → (tbl[j]'h).toNat ≠ c.toNat)) (fun i => 12 - (intOf i).toNat)
  case atStart => exact ⟨0, Nat.zero_le _, rfl, fun j _ hj => absurd hj (Nat.not_lt_zero j)⟩
  case round =>
    obtain ⟨k, hk, rfl, HJ⟩ := hrel
    by_cases hlt : k < 12
    · have hkI : (0 : Int) ≤ (k : Int) := by omega
      have hkI2 : (k : Int) < 12 := by omega
      by_cases hx : (tbl[k]'hlt).toNat = c.toNat
      · have HE := hid ((sgl_tbl c.toNat).2 ⟨k, hlt, hx⟩)
        have hb : (((tbl[k]'hlt).toNat : Int) == (c.toNat : Int)) = true := by rw [beq_iff_eq]; omega
        clear hx
        go_wp2
        go_ret
        exact ⟨ret_bool HE.out.symm, rfl⟩
      · have hb : (((tbl[k]'hlt).toNat : Int) == (c.toNat : Int)) = false := by rw [beq_eq_false_iff_ne]; omega
        have HJ2 := hid (show ∀ j (h : j < 12), j < k + 1 → (tbl[j]'h).toNat ≠ c.toNat from fun j h hj => by
          by_cases e : j = k
          · subst e; exact hx
          · exact HJ.out j h (by omega))
        clear hx
        go_wp2
        go_round
        case rel => exact ⟨k + 1, by omega, by go_num, HJ2⟩
        case measure => simp [intOf]; omega
    · have HE := hid (show Wo.sgl c.toNat = false by
        cases hq : Wo.sgl c.toNat with
        | false => rfl
        | true =>
          obtain ⟨j, hj, e⟩ := (sgl_tbl c.toNat).1 hq
          exact absurd e (HJ.out j hj (by omega)))
      go_wp2
      go_ret
      exact ⟨ret_bool HE.out.symm, rfl⟩

/-- Is it a sign of two bytes? -/
def dblL (l : List UInt8) : Bool := l == [61, 61] || l == [60, 61] || l == [62, 61] || l == [45, 62]
theorem dblL_two (l : List UInt8) : dblL l = match l with | [a, b] => Wo.dbl a.toNat b.toNat | _ => false := by
  match l with
  | [] => rfl
  | [a] => simp [dblL]
  | [a, b] => simp [dblL, Wo.dbl, b_eq]
  | a :: b :: c :: t => simp [dblL]
set_option maxHeartbeats 1000000 in
theorem double_any (s : ByteArray) (w : World) : Calls Tryz.prog 106 #[.string s] w fun e w' => e = .returned (.bool (dblL s.data.toList)) ∧ w' = w := by
  rw [show s.data.toList = s.toList from (Lib.toList_data s).symm]
  go_enter Tryz.func106, Tryz.ntmps106
  go_wp2
  all_goals
    go_ret
    refine ⟨ret_bool ?_, rfl⟩
    unfold dblL
    simp_all
end Go.Proofs.YtagppgncanimaaaGreatDoor
namespace Go.Proofs.YtagppgncanimaaaGreatDoor
open Go.RowKit

theorem sgn_two (l : List UInt8) : sgn l = (dblL l || (decide (l.length = 1) && Wo.sgl (l.headD 0).toNat)) := by
  rw [dblL_two]
  match l with
  | [] => rfl
  | [a] => simp [sgn]
  | [a, b] => simp [sgn]
  | a :: b :: c :: t => simp [sgn]

set_option maxHeartbeats 1000000 in
theorem RSign_any (s : ByteArray) (w : World) : Calls Tryz.prog 78 #[.string s] w fun e w' => e = .returned (.bool (sgn s.data.toList)) ∧ w' = w := by
  have HG := hid (sgn_two s.data.toList)
  rcases bool_two (dblL s.data.toList) with h | h
  · have q : ∀ w, Calls Tryz.prog 106 #[.string s] w fun e w' => e = .returned (.bool false) ∧ w' = w := fun w => h ▸ double_any s w
    by_cases h1 : s.size = 1
    · have hp : 0 < s.size := by omega
      have HI := hid (show sgn s.data.toList = Wo.sgl (s[0]'hp).toNat by rw [HG.out, h, headD_at s hp, list_size, h1]; simp)
      have hI : ((s.size : Int) == 1) = true := by rw [beq_iff_eq]; omega
      have hI0 : (0 : Int) < (s.size : Int) := by omega
      clear h h1
      go_enter Tryz.func78, Tryz.ntmps78
      go_wp2_with (first | (go_at_call 106; refine (q _).mono ?_; rintro e w' ⟨rfl, rfl⟩) | (go_at_call 107; refine (single_any (s[0]'hp) _).mono ?_; rintro e w' ⟨rfl, rfl⟩))
      go_ret
      exact ⟨ret_bool HI.out.symm, rfl⟩
    · have HI := hid (show sgn s.data.toList = false by rw [HG.out, h, list_size, decide_eq_false h1]; rfl)
      have hI : ((s.size : Int) == 1) = false := by rw [beq_eq_false_iff_ne]; omega
      clear h h1
      go_enter Tryz.func78, Tryz.ntmps78
      go_wp2_with (go_at_call 106; refine (q _).mono ?_; rintro e w' ⟨rfl, rfl⟩)
      go_ret
      exact ⟨ret_bool HI.out.symm, rfl⟩
  · have q : ∀ w, Calls Tryz.prog 106 #[.string s] w fun e w' => e = .returned (.bool true) ∧ w' = w := fun w => h ▸ double_any s w
    have HI := hid (show sgn s.data.toList = true by rw [HG.out, h]; rfl)
    clear h
    go_enter Tryz.func78, Tryz.ntmps78
    go_wp2_with (go_at_call 106; refine (q _).mono ?_; rintro e w' ⟨rfl, rfl⟩)
    go_ret
    exact ⟨ret_bool HI.out.symm, rfl⟩

set_option maxHeartbeats 2000000 in
theorem RName_any (s : ByteArray) (w : World) (hs : s.size ≤ maxLen) : Calls Tryz.prog 84 #[.string s] w fun e w' => e = .returned (.bool (Wo.nameB s.data.toList)) ∧ w' = w := by
  unfold maxLen at hs
  go_enter Tryz.func84, Tryz.ntmps84
  go_wp2
  go_loop [3] (fun i => ∃ k : Nat, k ≤ s.size ∧ i = .int .i64 k ∧ Hid ((s.data.toList.take k).all (fun c => Wo.ltr c.toNat) = true)) (fun i => s.size - (intOf i).toNat)
  case atStart => exact ⟨0, Nat.zero_le _, rfl, rfl⟩
  case round =>
    obtain ⟨k, hk, rfl, HA⟩ := hrel
    by_cases hlt : k < s.size
    · have hkI : (0 : Int) ≤ (k : Int) := by omega
      have hkI2 : (k : Int) < (s.size : Int) := by omega
      have HT := hid (take_snoc s k hlt)
      rcases bool_two (Wo.ltr (s[k]'hlt).toNat) with hd | hd
      · have q : ∀ w, Calls Tryz.prog 112 #[bv (s[k]'hlt)] w fun e w' => e = .returned (.bool false) ∧ w' = w := fun w => hd ▸ Rletter_any (s[k]'hlt) w
        have HE := hid (show Wo.nameB s.data.toList = false from decide_eq_false (fun h => by have := all_at h.2.2.2.2 hlt; rw [hd] at this; exact absurd this (by simp)))
        clear hd
        go_wp2_with (go_at_call 112; refine (q _).mono ?_; rintro e w' ⟨rfl, rfl⟩)
        go_ret
        exact ⟨ret_bool HE.out.symm, rfl⟩
      · have q : ∀ w, Calls Tryz.prog 112 #[bv (s[k]'hlt)] w fun e w' => e = .returned (.bool true) ∧ w' = w := fun w => hd ▸ Rletter_any (s[k]'hlt) w
        have HA2 := hid (show (s.data.toList.take (k + 1)).all (fun c => Wo.ltr c.toNat) = true by rw [HT.out, List.all_append, HA.out]; simp [hd])
        clear hd
        go_wp2_with (go_at_call 112; refine (q _).mono ?_; rintro e w' ⟨rfl, rfl⟩)
        go_round
        case rel => exact ⟨k + 1, by omega, by go_num, HA2⟩
        case measure => simp [intOf]; omega
    · have HA2 := hid (show s.data.toList.all (fun c => Wo.ltr c.toNat) = true by have := HA.out; rw [take_all s (by omega)] at this; exact this)
      by_cases h0 : s.size = 0
      · have HI := hid (show Wo.nameB s.data.toList = false by rw [empty_of_size h0]; rfl)
        have hn : (s.toList == []) = true := by rw [toList_nil, h0]; rfl
        clear h0
        go_wp2
        go_ret
        exact ⟨ret_bool HI.out.symm, rfl⟩
      · have hn : (s.toList == []) = false := by rw [toList_nil]; exact decide_eq_false h0
        have hp : 0 < s.size := by omega
        have hp0 : (0 : Int) < (s.size : Int) := by omega
        have hh := headD_at s hp
        have hne : s.data.toList ≠ [] := fun e => h0 (by rw [Lib.size_eq, e]; rfl)
        by_cases h64 : s.size ≤ 64
        · have hI : (s.size : Int) ≤ 64 := by omega
          rcases bool_two (Wo.dg (s[0]'hp).toNat) with h1 | h1
          · have q : ∀ w, Calls Tryz.prog 113 #[bv (s[0]'hp)] w fun e w' => e = .returned (.bool false) ∧ w' = w := fun w => h1 ▸ Rdigit_any (s[0]'hp) w
            have HI := hid (show Wo.nameB s.data.toList = (((s[0]'hp).toNat : Int) != 45) by
              unfold Wo.nameB
              rw [Bool.eq_iff_iff, decide_eq_true_iff, bne_iff_ne, hh, list_size]
              exact ⟨fun h => by have := h.2.2.2.1; omega, fun h => ⟨hne, by omega, h1, by omega, HA2.out⟩⟩)
            clear h0 hh hne h1
            go_wp2_with (go_at_call 113; refine (q _).mono ?_; rintro e w' ⟨rfl, rfl⟩)
            go_ret
            exact ⟨ret_bool HI.out.symm, rfl⟩
          · have q : ∀ w, Calls Tryz.prog 113 #[bv (s[0]'hp)] w fun e w' => e = .returned (.bool true) ∧ w' = w := fun w => h1 ▸ Rdigit_any (s[0]'hp) w
            have HI := hid (show Wo.nameB s.data.toList = false from decide_eq_false (fun h => by have := h.2.2.1; rw [hh, h1] at this; exact absurd this (by simp)))
            clear h0 hh hne h1
            go_wp2_with (go_at_call 113; refine (q _).mono ?_; rintro e w' ⟨rfl, rfl⟩)
            go_ret
            exact ⟨ret_bool HI.out.symm, rfl⟩
        · have HI := hid (show Wo.nameB s.data.toList = false from decide_eq_false (fun h => by have := h.2.1; rw [list_size] at this; omega))
          have hI : decide ((s.size : Int) ≤ 64) = false := decide_eq_false (by omega)
          clear h0 hh hne
          go_wp2
          go_ret
          exact ⟨ret_bool HI.out.symm, rfl⟩
end Go.Proofs.YtagppgncanimaaaGreatDoor
namespace Go.Proofs.YtagppgncanimaaaGreatDoor
open Go.RowKit

theorem Rx.all_iff (p : Rx → Bool) (r : Rx) : Rx.all p r = true ↔ p r = true ∧ ∀ k ∈ r.kids, Rx.all p k = true := by
  rw [Rx.all_eq, Bool.and_eq_true, List.all_eq_true]
  constructor
  · rintro ⟨h1, h2⟩
    exact ⟨h1, fun k hk => h2 _ (List.mem_map_of_mem hk)⟩
  · rintro ⟨h1, h2⟩
    refine ⟨h1, fun x hx => ?_⟩
    obtain ⟨k, hk, rfl⟩ := List.mem_map.1 hx
    exact h2 k hk
/-- Names of a length that a text may have. -/
def Rx.Fit (r : Rx) : Prop := Rx.all (fun x => decide (x.name.length ≤ maxLen)) r = true
theorem Rx.Fit.name {r : Rx} (h : r.Fit) : r.name.length ≤ maxLen := of_decide_eq_true ((Rx.all_iff _ _).1 h).1
theorem Rx.Fit.kid {r k : Rx} (h : r.Fit) (hk : k ∈ r.kids) : k.Fit := ((Rx.all_iff _ _).1 h).2 k hk
/-- No one of some is of a kind. -/
def noneB (ks : List Rx) (op : Int) : Bool := ks.all fun k => !(k.op == op)
/-- May a node be, its Kids aside? -/
def nodeB (r : Rx) : Bool :=
  if r.op = 1 ∨ r.op = 2 then Wo.nameB r.name && decide (r.kids.length = 0)
  else if r.op = 3 then r.name.isEmpty && decide (r.kids.length = 0)
  else if r.op = 4 then (r.name.isEmpty && decide (r.kids.length ≠ 1)) && noneB r.kids 4
  else if r.op = 5 then (r.name.isEmpty && decide (2 ≤ r.kids.length)) && noneB r.kids 5
  else if r.op = 6 ∨ r.op = 7 ∨ r.op = 8 then r.name.isEmpty && decide (r.kids.length = 1)
  else false
/-- What Check tells. -/
def chkN (r : Rx) : Nat := if 1000 < r.nodes then 3 else if 100 < r.deep then 91 else if Rx.all nodeB r then 0 else 92
/-- What Size tells. -/
def szN (r : Rx) : Nat × Nat := if r.nodes ≤ 100000 ∧ r.deep ≤ 1000 then (r.nodes, r.deep) else (0, 0)

set_option maxRecDepth 4000 in
set_option maxHeartbeats 2000000 in
theorem none_any {w : World} {v : Value} {ks : List Rx} (h : RxS w v ks) (hn : ks.length ≤ 1000000) (op : Int) : Calls Tryz.prog 85 #[v, .int .i64 op] w fun e w' => e = .returned (.bool (noneB ks op)) ∧ w' = w := by
  obtain ⟨ao, cap, rfl, hat⟩ := h.at
  obtain ⟨n, hnn⟩ : ∃ n, n = ks.length := ⟨_, rfl⟩
  have HN := hid hnn
  rw [← hnn] at hn ⊢
  have HAT := hid hat
  clear h hat hnn
  go_enter Tryz.func85, Tryz.ntmps85
  go_wp2_with fail
  go_loopw [5] (fun i wr => ∃ j : Nat, j ≤ n ∧ i = .int .i64 j ∧ Hid (∀ i k, i < j → ks[i]? = some k → (k.op == op) = false) ∧ wr = w) (fun i _ => n - (intOf i).toNat)
  case atStart => exact ⟨0, Nat.zero_le _, rfl, fun i k hi => absurd hi (Nat.not_lt_zero i), rfl⟩
  case round =>
    obtain ⟨j, hj, rfl, HD, rfl⟩ := hrel
    by_cases hlt : j < n
    · obtain ⟨k, hk⟩ : ∃ k, ks[j]? = some k := ⟨ks[j]'(by rw [← HN.out]; exact hlt), List.getElem?_eq_getElem _⟩
      obtain ⟨g, o, rfl, hg, hcell⟩ : ∃ g o, ao = some ⟨g, o, none⟩ ∧ g < wr.heap.size ∧ ∀ (i : Nat) (k : Rx), ks[i]? = some k → ∃ u un uc, wr.cell? ⟨g, o + i * 3, none⟩ = some (.int .i64 k.op) ∧ wr.cell? ⟨g, o + i * 3 + 1, none⟩ = some (.string (tx k.name)) ∧ wr.cell? ⟨g, o + i * 3 + 2, none⟩ = some (.slice u un uc) ∧ un = k.kids.length ∧ RxS wr (.slice u un uc) k.kids := by
        rcases HAT.out with e | h
        · rw [e] at hk; simp at hk
        · exact h
      obtain ⟨u, un, uc, a0, -, -, -, -⟩ := hcell j k hk
      have HK := hid hk
      have hkI : (j : Int) < (n : Int) := by omega
      have hk0 : (0 : Int) ≤ (j : Int) := by omega
      clear hk hcell
      rcases bool_two (k.op == op) with hb | hb
      · have HD2 := hid (show ∀ i k, i < j + 1 → ks[i]? = some k → (k.op == op) = false from fun i x hi hx => by
          by_cases e : i = j
          · subst e
            rw [HK.out] at hx
            injection hx with hx
            rw [← hx]; exact hb
          · exact HD.out i x (by omega) hx)
        go_wp2
        go_roundw
        case rel => exact ⟨j + 1, by omega, by go_num, HD2, trivial⟩
        case measure => simp [intOf]; omega
      · have HE := hid (show noneB ks op = false by
          cases q : noneB ks op with
          | false => rfl
          | true =>
            have := List.all_eq_true.1 q k (List.mem_of_getElem? HK.out)
            rw [hb] at this; cases this)
        go_wp2
        go_ret
        exact ⟨by rw [HE.out]; rfl, rfl⟩
    · have hkI : ¬ ((j : Int) < (n : Int)) := by omega
      have HE := hid (show noneB ks op = true from List.all_eq_true.2 fun k hk => by
        obtain ⟨i, hi, rfl⟩ := List.mem_iff_getElem.1 hk
        rw [HD.out i _ (by have := HN.out; omega) (List.getElem?_eq_getElem hi)]; rfl)
      go_wp2
      go_ret
      exact ⟨by rw [HE.out]; rfl, rfl⟩

set_option maxRecDepth 4000 in
set_option maxHeartbeats 4000000 in
theorem node_any {w : World} {v : Value} {r : Rx} (h : RxS w v r.kids) (hn : r.kids.length ≤ 1000000) (hf : r.name.length ≤ maxLen) : Calls Tryz.prog 58 #[.agg #[.int .i64 r.op, .string (tx r.name), v]] w fun e w' => e = .returned (.bool (nodeB r)) ∧ Below w.heap.size w w' := by
  have HNO := hid (fun (W : World) (hb : Below w.heap.size w W) (op : Int) => none_any (h.on hb) hn op)
  have HNM := hid (fun W => RName_any (tx r.name) W (by rw [tx_size]; exact hf))
  obtain ⟨op, nm, ks⟩ := r
  simp only [Rx.op, Rx.name, Rx.kids] at *
  obtain ⟨ao, cap, rfl, -⟩ := h.at
  obtain ⟨n, hnn⟩ : ∃ n, n = ks.length := ⟨_, rfl⟩
  have HN := hid hnn
  rw [← hnn] at HNO ⊢
  clear hnn hn hf h
  by_cases o1 : op = 1
  · subst o1
    go_enter Tryz.func58, Tryz.ntmps58
    go_wp2_with (first | (go_at_call 85; refine (HNO.out _ ((Below.refl _ _).alloc (Nat.le_refl _) _) _).mono ?_; rintro e w1 ⟨rfl, rfl⟩) | (go_at_call 84; refine (HNM.out _).mono ?_; rintro e w1 ⟨rfl, rfl⟩))
    all_goals (
      go_ret
      refine ⟨?_, (Below.refl _ _).alloc (Nat.le_refl _) _⟩
      have hN := HN.out
      clear HNO HNM HN
      subst hN
      rcases ks with _ | ⟨a, _ | ⟨b, t⟩⟩ <;> simp_all [nodeB, Rx.op, Rx.name, Rx.kids] <;> omega)
  by_cases o2 : op = 2
  · subst o2
    go_enter Tryz.func58, Tryz.ntmps58
    go_wp2_with (first | (go_at_call 85; refine (HNO.out _ ((Below.refl _ _).alloc (Nat.le_refl _) _) _).mono ?_; rintro e w1 ⟨rfl, rfl⟩) | (go_at_call 84; refine (HNM.out _).mono ?_; rintro e w1 ⟨rfl, rfl⟩))
    all_goals (
      go_ret
      refine ⟨?_, (Below.refl _ _).alloc (Nat.le_refl _) _⟩
      have hN := HN.out
      clear HNO HNM HN
      subst hN
      rcases ks with _ | ⟨a, _ | ⟨b, t⟩⟩ <;> simp_all [nodeB, Rx.op, Rx.name, Rx.kids] <;> omega)
  by_cases o3 : op = 3
  · subst o3
    go_enter Tryz.func58, Tryz.ntmps58
    go_wp2_with (first | (go_at_call 85; refine (HNO.out _ ((Below.refl _ _).alloc (Nat.le_refl _) _) _).mono ?_; rintro e w1 ⟨rfl, rfl⟩) | (go_at_call 84; refine (HNM.out _).mono ?_; rintro e w1 ⟨rfl, rfl⟩))
    all_goals (
      go_ret
      refine ⟨?_, (Below.refl _ _).alloc (Nat.le_refl _) _⟩
      have hN := HN.out
      clear HNO HNM HN
      subst hN
      rcases ks with _ | ⟨a, _ | ⟨b, t⟩⟩ <;> simp_all [nodeB, Rx.op, Rx.name, Rx.kids] <;> omega)
  by_cases o4 : op = 4
  · subst o4
    go_enter Tryz.func58, Tryz.ntmps58
    go_wp2_with (first | (go_at_call 85; refine (HNO.out _ ((Below.refl _ _).alloc (Nat.le_refl _) _) _).mono ?_; rintro e w1 ⟨rfl, rfl⟩) | (go_at_call 84; refine (HNM.out _).mono ?_; rintro e w1 ⟨rfl, rfl⟩))
    all_goals (
      go_ret
      refine ⟨?_, (Below.refl _ _).alloc (Nat.le_refl _) _⟩
      have hN := HN.out
      clear HNO HNM HN
      subst hN
      rcases ks with _ | ⟨a, _ | ⟨b, t⟩⟩ <;> simp_all [nodeB, Rx.op, Rx.name, Rx.kids] <;> omega)
  by_cases o5 : op = 5
  · subst o5
    go_enter Tryz.func58, Tryz.ntmps58
    go_wp2_with (first | (go_at_call 85; refine (HNO.out _ ((Below.refl _ _).alloc (Nat.le_refl _) _) _).mono ?_; rintro e w1 ⟨rfl, rfl⟩) | (go_at_call 84; refine (HNM.out _).mono ?_; rintro e w1 ⟨rfl, rfl⟩))
    all_goals (
      go_ret
      refine ⟨?_, (Below.refl _ _).alloc (Nat.le_refl _) _⟩
      have hN := HN.out
      clear HNO HNM HN
      subst hN
      rcases ks with _ | ⟨a, _ | ⟨b, t⟩⟩ <;> simp_all [nodeB, Rx.op, Rx.name, Rx.kids] <;> omega)
  by_cases o6 : op = 6
  · subst o6
    go_enter Tryz.func58, Tryz.ntmps58
    go_wp2_with (first | (go_at_call 85; refine (HNO.out _ ((Below.refl _ _).alloc (Nat.le_refl _) _) _).mono ?_; rintro e w1 ⟨rfl, rfl⟩) | (go_at_call 84; refine (HNM.out _).mono ?_; rintro e w1 ⟨rfl, rfl⟩))
    all_goals (
      go_ret
      refine ⟨?_, (Below.refl _ _).alloc (Nat.le_refl _) _⟩
      have hN := HN.out
      clear HNO HNM HN
      subst hN
      rcases ks with _ | ⟨a, _ | ⟨b, t⟩⟩ <;> simp_all [nodeB, Rx.op, Rx.name, Rx.kids] <;> omega)
  by_cases o7 : op = 7
  · subst o7
    go_enter Tryz.func58, Tryz.ntmps58
    go_wp2_with (first | (go_at_call 85; refine (HNO.out _ ((Below.refl _ _).alloc (Nat.le_refl _) _) _).mono ?_; rintro e w1 ⟨rfl, rfl⟩) | (go_at_call 84; refine (HNM.out _).mono ?_; rintro e w1 ⟨rfl, rfl⟩))
    all_goals (
      go_ret
      refine ⟨?_, (Below.refl _ _).alloc (Nat.le_refl _) _⟩
      have hN := HN.out
      clear HNO HNM HN
      subst hN
      rcases ks with _ | ⟨a, _ | ⟨b, t⟩⟩ <;> simp_all [nodeB, Rx.op, Rx.name, Rx.kids] <;> omega)
  by_cases o8 : op = 8
  · subst o8
    go_enter Tryz.func58, Tryz.ntmps58
    go_wp2_with (first | (go_at_call 85; refine (HNO.out _ ((Below.refl _ _).alloc (Nat.le_refl _) _) _).mono ?_; rintro e w1 ⟨rfl, rfl⟩) | (go_at_call 84; refine (HNM.out _).mono ?_; rintro e w1 ⟨rfl, rfl⟩))
    all_goals (
      go_ret
      refine ⟨?_, (Below.refl _ _).alloc (Nat.le_refl _) _⟩
      have hN := HN.out
      clear HNO HNM HN
      subst hN
      rcases ks with _ | ⟨a, _ | ⟨b, t⟩⟩ <;> simp_all [nodeB, Rx.op, Rx.name, Rx.kids] <;> omega)
  · have b := And.intro o1 (And.intro o2 o3)
    go_enter Tryz.func58, Tryz.ntmps58
    go_wp2_with (first | (go_at_call 85; refine (HNO.out _ ((Below.refl _ _).alloc (Nat.le_refl _) _) _).mono ?_; rintro e w1 ⟨rfl, rfl⟩) | (go_at_call 84; refine (HNM.out _).mono ?_; rintro e w1 ⟨rfl, rfl⟩))
    all_goals (
      go_ret
      refine ⟨?_, (Below.refl _ _).alloc (Nat.le_refl _) _⟩
      have hN := HN.out
      clear HNO HNM HN
      subst hN
      rcases ks with _ | ⟨a, _ | ⟨b, t⟩⟩ <;> simp_all [nodeB, Rx.op] <;> omega)
end Go.Proofs.YtagppgncanimaaaGreatDoor
namespace Go.Proofs.YtagppgncanimaaaGreatDoor
open Go.RowKit

theorem below_2x {w w1 w2 : World} (h1 : Below w.heap.size w w1) (h2 : Below w1.heap.size w1 w2) : Below w.heap.size w w2 := h1.trans (h2.mono h1.size)
theorem hid_x {p : Prop} (h : p) : Hid p := h
theorem Tryz.entKid : ∀ args w, (callFunc 111 args).run Tryz.prog w = .ok (.enter 111 args) w := fun _ _ => by kernel_rfl
theorem kid1_any {w : World} {cb : Nat} {k : Rx} {op : Int} {v : Value} (hv : ∃ ao n c, v = .slice ao n c) (hc : w.cell? ⟨cb, 0, none⟩ = some (.int .i64 op)) :
    Calls Tryz.prog 111 #[.agg #[.int .i64 k.op, .string (tx k.name), v], .pointer (some ⟨cb, 0, none⟩)] w fun e w' => e = .returned (.bool (k.op == op)) ∧ Below w.heap.size w w' := by
  obtain ⟨ao, n, c, rfl⟩ := hv
  have hca : ∀ o, (w.alloc o).cell? ⟨cb, 0, none⟩ = some (.int .i64 op) := fun o => by
    have h0 := World.block_lt_of_cell? w _ hc
    rw [(((Below.refl w.heap.size w).alloc (Nat.le_refl _) o).cell (p := ⟨cb, 0, none⟩) (by exact h0))]
    exact hc
  go_enter Tryz.func111, Tryz.ntmps111
  go_wp2
  go_ret
  exact ⟨rfl, (Below.refl _ _).alloc (Nat.le_refl _) _⟩

set_option maxRecDepth 20000 in
set_option maxHeartbeats 2000000 in
theorem gIndex_any {w : World} {cb : Nat} {v : Value} {ks : List Rx} {op : Int} (h : RxS w v ks) (hn : ks.length ≤ 1000000) (hc : w.cell? ⟨cb, 0, none⟩ = some (.int .i64 op)) :
    Calls Tryz.prog 143 #[v, .func (.func 111) #[] #[.pointer (some ⟨cb, 0, none⟩)]] w fun e w' => ∃ i : Int, e = .returned (.int .i64 i) ∧ Hid (decide (0 ≤ i) = !noneB ks op) ∧ Below w.heap.size w w' := by
  obtain ⟨ao, cap, rfl, hat⟩ := h.at
  obtain ⟨n, hnn⟩ : ∃ n, n = ks.length := ⟨_, rfl⟩
  have HN := hid hnn
  rw [← hnn] at hn ⊢
  have HAT := hid hat
  have hent := Tryz.entKid
  have hcb := World.block_lt_of_cell? w _ hc
  have HC := hid hc
  clear h hat hnn hc
  go_enter Tryz.func143, Tryz.ntmps143
  go_wp2_with fail
  go_loopw [8, 5] (fun i _ wr => ∃ j : Nat, j ≤ n ∧ i = .int .i64 j ∧ Hid ((∀ i k, i < j → ks[i]? = some k → (k.op == op) = false) ∧ Below w.heap.size w wr)) (fun i _ _ => n - (intOf i).toNat)
  case atStart => exact ⟨0, Nat.zero_le _, rfl, fun i k hi => absurd hi (Nat.not_lt_zero i), Below.refl _ _⟩
  case round =>
    obtain ⟨j, hj, rfl, HJ⟩ := hrel
    by_cases hlt : j < n
    · obtain ⟨k, hk⟩ : ∃ k, ks[j]? = some k := ⟨ks[j]'(by rw [← HN.out]; exact hlt), List.getElem?_eq_getElem _⟩
      obtain ⟨g, o, rfl, hg, hcell⟩ : ∃ g o, ao = some ⟨g, o, none⟩ ∧ g < w.heap.size ∧ ∀ (i : Nat) (k : Rx), ks[i]? = some k → ∃ u un uc, w.cell? ⟨g, o + i * 3, none⟩ = some (.int .i64 k.op) ∧ w.cell? ⟨g, o + i * 3 + 1, none⟩ = some (.string (tx k.name)) ∧ w.cell? ⟨g, o + i * 3 + 2, none⟩ = some (.slice u un uc) ∧ un = k.kids.length ∧ RxS w (.slice u un uc) k.kids := by
        rcases HAT.out with e | h
        · rw [e] at hk; simp at hk
        · exact h
      obtain ⟨u, un, uc, a0, a1, a2, -, -⟩ := hcell j k hk
      have k0 := (HJ.out.2.cell (p := ⟨g, o + j * 3, none⟩) (by exact hg)).trans a0
      have k1 := (HJ.out.2.cell (p := ⟨g, o + j * 3 + 1, none⟩) (by exact hg)).trans a1
      have k2 := (HJ.out.2.cell (p := ⟨g, o + j * 3 + 2, none⟩) (by exact hg)).trans a2
      have HK := hid hk
      have HM := hid (kid1_any (w := wr) (cb := cb) (k := k) (op := op) (v := .slice u un uc) ⟨_, _, _, rfl⟩ ((HJ.out.2.cell (by exact hcb)).trans HC.out))
      have hkI : (j : Int) < (n : Int) := by omega
      have hk0 : (0 : Int) ≤ (j : Int) := by omega
      clear hk a0 a1 a2 hcell
      rcases bool_two (k.op == op) with hb | hb
      · rw [hb] at HM
        have HNN := hid (show ∀ i k, i < j + 1 → ks[i]? = some k → (k.op == op) = false from fun i x hi hx => by
          by_cases e : i = j
          · subst e
            rw [HK.out] at hx
            injection hx with hx
            rw [← hx]; exact hb
          · exact HJ.out.1 i x (by omega) hx)
        clear hb
        go_wp2_with (go_at_call 111; refine HM.out.mono ?_; rintro e w2 ⟨rfl, hb2⟩; have B2 := hid hb2; clear hb2)
        go_roundw
        case rel => exact ⟨j + 1, by omega, by go_num, HNN.out, below_2x HJ.out.2 B2.out⟩
        case measure => simp [intOf]; omega
      · rw [hb] at HM
        have HE := hid (show noneB ks op = false by
          cases q : noneB ks op with
          | false => rfl
          | true =>
            have := List.all_eq_true.1 q k (List.mem_of_getElem? HK.out)
            rw [hb] at this; cases this)
        clear hb
        go_wp2_with (go_at_call 111; refine HM.out.mono ?_; rintro e w2 ⟨rfl, hb2⟩; have B2 := hid hb2; clear hb2)
        go_ret
        exact ⟨_, rfl, by show decide (0 ≤ (j : Int)) = _; rw [HE.out, decide_eq_true (by omega)]; rfl, below_2x HJ.out.2 B2.out⟩
    · have hkI : ¬ ((j : Int) < (n : Int)) := by omega
      have HE := hid (show noneB ks op = true from List.all_eq_true.2 fun k hk => by
        obtain ⟨i, hi, rfl⟩ := List.mem_iff_getElem.1 hk
        rw [HJ.out.1 i _ (by have := HN.out; omega) (List.getElem?_eq_getElem hi)]; rfl)
      clear hlt
      go_wp2
      go_ret
      exact ⟨-1, rfl, by show decide ((0 : Int) ≤ -1) = _; rw [HE.out]; rfl, HJ.out.2⟩

set_option maxRecDepth 20000 in
set_option maxHeartbeats 2000000 in
theorem gContains_any {w : World} {cb : Nat} {v : Value} {ks : List Rx} {op : Int} (h : RxS w v ks) (hn : ks.length ≤ 1000000) (hc : w.cell? ⟨cb, 0, none⟩ = some (.int .i64 op)) :
    Calls Tryz.prog 110 #[v, .func (.func 111) #[] #[.pointer (some ⟨cb, 0, none⟩)]] w fun e w' => e = .returned (.bool (!noneB ks op)) ∧ Below w.heap.size w w' := by
  have HI := hid (gIndex_any h hn hc)
  obtain ⟨ao, cap, rfl, -⟩ := h.at
  clear h hc
  go_enter Tryz.func110, Tryz.ntmps110
  go_wp2_with fail
  refine HI.out.mono ?_
  rintro e w2 ⟨i, rfl, hi, hb2⟩
  have HE := hid hi.out
  have B2 := hid hb2
  clear hi hb2
  go_wp2
  go_ret
  exact ⟨by rw [← HE.out]; rfl, B2.out⟩

set_option maxRecDepth 20000 in
set_option maxHeartbeats 2000000 in
theorem hasKid_any {w : World} {v : Value} {r : Rx} {op : Int} (h : RxS w v r.kids) (hn : r.kids.length ≤ 1000000) :
    Calls Tryz.prog 83 #[.agg #[.int .i64 r.op, .string (tx r.name), v], .int .i64 op] w fun e w' => e = .returned (.bool (!noneB r.kids op)) ∧ Below w.heap.size w w' := by
  have hB : ∀ o o', Below w.heap.size w ((w.alloc o).alloc o') := fun o o' => ((Below.refl w.heap.size w).alloc (Nat.le_refl _) _).alloc (by simp) _
  have HB := hid hB
  have HC := hid (fun (o : Obj) => gContains_any (w := (w.alloc o).alloc (.cells #[.int .i64 op] 22)) (cb := w.heap.size + 1) (op := op) (h.on (hB _ _)) hn (by rw [cell_at (new_1 _ _ _)]; rfl))
  have hmf : ∀ (fn : Fn) (first cap : Array Value) (w : World), (Instr.makeFunc fn first cap).run Tryz.prog w = .ok (.func fn first cap) w := fun _ _ _ _ => by kernel_rfl
  obtain ⟨ao, cap, rfl, -⟩ := h.at
  clear h hB
  go_enter Tryz.func83, Tryz.ntmps83
  go_wp2_with fail
  refine (HC.out _).mono ?_
  rintro e w2 ⟨rfl, hb2⟩
  have B2 := hid (below_2x (HB.out _ _) hb2)
  clear hb2
  go_wp2
  go_ret
  exact ⟨rfl, B2.out⟩

end Go.Proofs.YtagppgncanimaaaGreatDoor
namespace Go.Proofs.YtagppgncanimaaaGreatDoor
open Go.RowKit

set_option maxRecDepth 20000 in
set_option maxHeartbeats 4000000 in
theorem nodeMayBe_any {w : World} {v : Value} {r : Rx} (h : RxS w v r.kids) (hn : r.kids.length ≤ 1000000) (hf : r.name.length ≤ maxLen) : Calls Tryz.prog 57 #[.agg #[.int .i64 r.op, .string (tx r.name), v]] w fun e w' => e = .returned (.bool (nodeB r)) ∧ Below w.heap.size w w' := by
  have HNO := hid (fun (W : World) (hb : Below w.heap.size w W) (op : Int) => hasKid_any (r := r) (op := op) (h.on hb) hn)
  have HNM := hid (fun W => Name_any (tx r.name) W (by rw [tx_size]; exact hf))
  obtain ⟨op, nm, ks⟩ := r
  simp only [Rx.op, Rx.name, Rx.kids] at *
  obtain ⟨ao, cap, rfl, -⟩ := h.at
  obtain ⟨n, hnn⟩ : ∃ n, n = ks.length := ⟨_, rfl⟩
  have HN := hid hnn
  rw [← hnn] at HNO ⊢
  clear hnn hn hf h
  by_cases o1 : op = 1
  · subst o1
    go_enter Tryz.func57, Tryz.ntmps57
    go_wp2_with (first | (go_at_call 83; refine (HNO.out _ ((Below.refl _ _).alloc (Nat.le_refl _) _) _).mono ?_; rintro e w1 ⟨rfl, hb1⟩; have B1 := hid (below_2x ((Below.refl w.heap.size w).alloc (Nat.le_refl _) _) hb1); clear hb1) | (go_at_call 82; refine (HNM.out _).mono ?_; rintro e w1 ⟨rfl, rfl⟩))
    all_goals (
      go_ret
      refine ⟨?_, (by first | exact B1.out | exact (Below.refl _ _).alloc (Nat.le_refl _) _)⟩
      have hN := HN.out
      clear HNO HNM HN
      subst hN
      rcases ks with _ | ⟨a, _ | ⟨b, t⟩⟩ <;> simp_all [nodeB, Rx.op, Rx.name, Rx.kids] <;> omega)
  by_cases o2 : op = 2
  · subst o2
    go_enter Tryz.func57, Tryz.ntmps57
    go_wp2_with (first | (go_at_call 83; refine (HNO.out _ ((Below.refl _ _).alloc (Nat.le_refl _) _) _).mono ?_; rintro e w1 ⟨rfl, hb1⟩; have B1 := hid (below_2x ((Below.refl w.heap.size w).alloc (Nat.le_refl _) _) hb1); clear hb1) | (go_at_call 82; refine (HNM.out _).mono ?_; rintro e w1 ⟨rfl, rfl⟩))
    all_goals (
      go_ret
      refine ⟨?_, (by first | exact B1.out | exact (Below.refl _ _).alloc (Nat.le_refl _) _)⟩
      have hN := HN.out
      clear HNO HNM HN
      subst hN
      rcases ks with _ | ⟨a, _ | ⟨b, t⟩⟩ <;> simp_all [nodeB, Rx.op, Rx.name, Rx.kids] <;> omega)
  by_cases o3 : op = 3
  · subst o3
    go_enter Tryz.func57, Tryz.ntmps57
    go_wp2_with (first | (go_at_call 83; refine (HNO.out _ ((Below.refl _ _).alloc (Nat.le_refl _) _) _).mono ?_; rintro e w1 ⟨rfl, hb1⟩; have B1 := hid (below_2x ((Below.refl w.heap.size w).alloc (Nat.le_refl _) _) hb1); clear hb1) | (go_at_call 82; refine (HNM.out _).mono ?_; rintro e w1 ⟨rfl, rfl⟩))
    all_goals (
      go_ret
      refine ⟨?_, (by first | exact B1.out | exact (Below.refl _ _).alloc (Nat.le_refl _) _)⟩
      have hN := HN.out
      clear HNO HNM HN
      subst hN
      rcases ks with _ | ⟨a, _ | ⟨b, t⟩⟩ <;> simp_all [nodeB, Rx.op, Rx.name, Rx.kids] <;> omega)
  by_cases o4 : op = 4
  · subst o4
    by_cases hnm : nm = []
    · subst hnm
      go_enter Tryz.func57, Tryz.ntmps57
      go_wp2_with (first | (go_at_call 83; refine (HNO.out _ ((Below.refl _ _).alloc (Nat.le_refl _) _) _).mono ?_; rintro e w1 ⟨rfl, hb1⟩; have B1 := hid (below_2x ((Below.refl w.heap.size w).alloc (Nat.le_refl _) _) hb1); clear hb1) | (go_at_call 82; refine (HNM.out _).mono ?_; rintro e w1 ⟨rfl, rfl⟩))
      all_goals (
        go_ret
        refine ⟨?_, (by first | exact B1.out | exact (Below.refl _ _).alloc (Nat.le_refl _) _)⟩
        have hN := HN.out
        clear HNO HNM HN
        subst hN
        rcases ks with _ | ⟨a, _ | ⟨b, t⟩⟩ <;> simp_all [nodeB, Rx.op, Rx.name, Rx.kids] <;> omega)
    · go_enter Tryz.func57, Tryz.ntmps57
      go_wp2_with (first | (go_at_call 83; refine (HNO.out _ ((Below.refl _ _).alloc (Nat.le_refl _) _) _).mono ?_; rintro e w1 ⟨rfl, hb1⟩; have B1 := hid (below_2x ((Below.refl w.heap.size w).alloc (Nat.le_refl _) _) hb1); clear hb1) | (go_at_call 82; refine (HNM.out _).mono ?_; rintro e w1 ⟨rfl, rfl⟩))
      all_goals (
        go_ret
        refine ⟨?_, (by first | exact B1.out | exact (Below.refl _ _).alloc (Nat.le_refl _) _)⟩
        have hN := HN.out
        clear HNO HNM HN
        subst hN
        rcases ks with _ | ⟨a, _ | ⟨b, t⟩⟩ <;> simp_all [nodeB, Rx.op, Rx.name, Rx.kids] <;> omega)
  by_cases o5 : op = 5
  · subst o5
    by_cases hnm : nm = []
    · subst hnm
      go_enter Tryz.func57, Tryz.ntmps57
      go_wp2_with (first | (go_at_call 83; refine (HNO.out _ ((Below.refl _ _).alloc (Nat.le_refl _) _) _).mono ?_; rintro e w1 ⟨rfl, hb1⟩; have B1 := hid (below_2x ((Below.refl w.heap.size w).alloc (Nat.le_refl _) _) hb1); clear hb1) | (go_at_call 82; refine (HNM.out _).mono ?_; rintro e w1 ⟨rfl, rfl⟩))
      all_goals (
        go_ret
        refine ⟨?_, (by first | exact B1.out | exact (Below.refl _ _).alloc (Nat.le_refl _) _)⟩
        have hN := HN.out
        clear HNO HNM HN
        subst hN
        rcases ks with _ | ⟨a, _ | ⟨b, t⟩⟩ <;> simp_all [nodeB, Rx.op, Rx.name, Rx.kids] <;> omega)
    · go_enter Tryz.func57, Tryz.ntmps57
      go_wp2_with (first | (go_at_call 83; refine (HNO.out _ ((Below.refl _ _).alloc (Nat.le_refl _) _) _).mono ?_; rintro e w1 ⟨rfl, hb1⟩; have B1 := hid (below_2x ((Below.refl w.heap.size w).alloc (Nat.le_refl _) _) hb1); clear hb1) | (go_at_call 82; refine (HNM.out _).mono ?_; rintro e w1 ⟨rfl, rfl⟩))
      all_goals (
        go_ret
        refine ⟨?_, (by first | exact B1.out | exact (Below.refl _ _).alloc (Nat.le_refl _) _)⟩
        have hN := HN.out
        clear HNO HNM HN
        subst hN
        rcases ks with _ | ⟨a, _ | ⟨b, t⟩⟩ <;> simp_all [nodeB, Rx.op, Rx.name, Rx.kids] <;> omega)
  by_cases o6 : op = 6
  · subst o6
    go_enter Tryz.func57, Tryz.ntmps57
    go_wp2_with (first | (go_at_call 83; refine (HNO.out _ ((Below.refl _ _).alloc (Nat.le_refl _) _) _).mono ?_; rintro e w1 ⟨rfl, hb1⟩; have B1 := hid (below_2x ((Below.refl w.heap.size w).alloc (Nat.le_refl _) _) hb1); clear hb1) | (go_at_call 82; refine (HNM.out _).mono ?_; rintro e w1 ⟨rfl, rfl⟩))
    all_goals (
      go_ret
      refine ⟨?_, (by first | exact B1.out | exact (Below.refl _ _).alloc (Nat.le_refl _) _)⟩
      have hN := HN.out
      clear HNO HNM HN
      subst hN
      rcases ks with _ | ⟨a, _ | ⟨b, t⟩⟩ <;> simp_all [nodeB, Rx.op, Rx.name, Rx.kids] <;> omega)
  by_cases o7 : op = 7
  · subst o7
    go_enter Tryz.func57, Tryz.ntmps57
    go_wp2_with (first | (go_at_call 83; refine (HNO.out _ ((Below.refl _ _).alloc (Nat.le_refl _) _) _).mono ?_; rintro e w1 ⟨rfl, hb1⟩; have B1 := hid (below_2x ((Below.refl w.heap.size w).alloc (Nat.le_refl _) _) hb1); clear hb1) | (go_at_call 82; refine (HNM.out _).mono ?_; rintro e w1 ⟨rfl, rfl⟩))
    all_goals (
      go_ret
      refine ⟨?_, (by first | exact B1.out | exact (Below.refl _ _).alloc (Nat.le_refl _) _)⟩
      have hN := HN.out
      clear HNO HNM HN
      subst hN
      rcases ks with _ | ⟨a, _ | ⟨b, t⟩⟩ <;> simp_all [nodeB, Rx.op, Rx.name, Rx.kids] <;> omega)
  by_cases o8 : op = 8
  · subst o8
    go_enter Tryz.func57, Tryz.ntmps57
    go_wp2_with (first | (go_at_call 83; refine (HNO.out _ ((Below.refl _ _).alloc (Nat.le_refl _) _) _).mono ?_; rintro e w1 ⟨rfl, hb1⟩; have B1 := hid (below_2x ((Below.refl w.heap.size w).alloc (Nat.le_refl _) _) hb1); clear hb1) | (go_at_call 82; refine (HNM.out _).mono ?_; rintro e w1 ⟨rfl, rfl⟩))
    all_goals (
      go_ret
      refine ⟨?_, (by first | exact B1.out | exact (Below.refl _ _).alloc (Nat.le_refl _) _)⟩
      have hN := HN.out
      clear HNO HNM HN
      subst hN
      rcases ks with _ | ⟨a, _ | ⟨b, t⟩⟩ <;> simp_all [nodeB, Rx.op, Rx.name, Rx.kids] <;> omega)
  · have b := And.intro o1 (And.intro o2 o3)
    go_enter Tryz.func57, Tryz.ntmps57
    go_wp2_with (first | (go_at_call 83; refine (HNO.out _ ((Below.refl _ _).alloc (Nat.le_refl _) _) _).mono ?_; rintro e w1 ⟨rfl, hb1⟩; have B1 := hid (below_2x ((Below.refl w.heap.size w).alloc (Nat.le_refl _) _) hb1); clear hb1) | (go_at_call 82; refine (HNM.out _).mono ?_; rintro e w1 ⟨rfl, rfl⟩))
    all_goals (
      go_ret
      refine ⟨?_, (by first | exact B1.out | exact (Below.refl _ _).alloc (Nat.le_refl _) _)⟩
      have hN := HN.out
      clear HNO HNM HN
      subst hN
      rcases ks with _ | ⟨a, _ | ⟨b, t⟩⟩ <;> simp_all [nodeB, Rx.op] <;> omega)
end Go.Proofs.YtagppgncanimaaaGreatDoor
