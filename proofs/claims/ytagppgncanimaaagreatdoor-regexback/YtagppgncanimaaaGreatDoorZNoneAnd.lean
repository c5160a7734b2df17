/-
  The parser's begin; what a change of its own cells leaves.
  The parser's repeat.
  The parser's put.
  The parser's small functions: open, last, must, done, next, pass.
  The program's takesNone.
-/
import Derived.Test.YtagppgncanimaaaGreatDoorYJoinAnd
import Derived.Test.YtagppgncanimaaaGreatDoorWKindAnd
import Derived.Deep.RegionLaw
import Derived.Deep.AppendLies
namespace Go.Proofs.YtagppgncanimaaaGreatDoor
open Go.RowKit

/-- A path may not pass. -/
def nemB (k : Sp) : Bool := !k.em
/-- A path may pass. -/
def emB (k : Sp) : Bool := k.em

theorem Tryz.entSp1 : ∀ args w, (callFunc 97 args).run Tryz.prog w = .ok (.enter 97 args) w := fun _ _ => by kernel_rfl
theorem spk1_any {w : World} {k : Sp} {v : Value} (hv : ∃ ao n c, v = .slice ao n c) :
    Calls Tryz.prog 97 #[.agg #[.int .i64 k.op, .string (tx k.name), v, .bool k.em, .bool k.en]] w fun e w' => e = .returned (.bool (nemB k)) ∧ Below w.heap.size w w' := by
  obtain ⟨ao, n, c, rfl⟩ := hv
  go_enter Tryz.func97, Tryz.ntmps97
  go_wp2
  go_ret
  exact ⟨rfl, (Below.refl _ _).alloc (Nat.le_refl _) _⟩

set_option maxRecDepth 20000 in
set_option maxHeartbeats 2000000 in
theorem spIndex1_any {w : World} {v : Value} {ks : List Sp} {bs : List Nat} (h : SpS w v ks bs) (hn : ks.length ≤ 1000000) :
    Calls Tryz.prog 128 #[v, .func (.func 97) #[] #[]] w fun e w' => ∃ i : Int, e = .returned (.int .i64 i) ∧ Hid (decide (0 ≤ i) = ks.any nemB) ∧ Below w.heap.size w w' := by
  obtain ⟨ao, cap, rfl⟩ := h.form
  obtain ⟨n, hnn⟩ : ∃ n, n = ks.length := ⟨_, rfl⟩
  have HN := hid hnn
  rw [← hnn] at hn h ⊢
  have HS := hid h
  have hent := Tryz.entSp1
  obtain ⟨bb, hbb⟩ : ∃ bb, bb = ks.any nemB := ⟨_, rfl⟩
  have HBB := hid hbb
  rw [← hbb]
  clear h hnn hbb
  go_enter Tryz.func128, Tryz.ntmps128
  go_wp2_with fail
  go_loopw [8, 5] (fun i _ wr => ∃ j : Nat, j ≤ n ∧ i = .int .i64 j ∧ Hid ((∀ i k, i < j → ks[i]? = some k → nemB k = false) ∧ Below w.heap.size w wr)) (fun i _ _ => n - (intOf i).toNat)
  case atStart => exact ⟨0, Nat.zero_le _, rfl, fun i k hi => absurd hi (Nat.not_lt_zero i), Below.refl _ _⟩
  case round =>
    obtain ⟨j, hj, rfl, HJ⟩ := hrel
    by_cases hlt : j < n
    · obtain ⟨k, hk⟩ : ∃ k, ks[j]? = some k := ⟨ks[j]'(by rw [← HN.out]; exact hlt), List.getElem?_eq_getElem _⟩
      rcases HS.out.at with ⟨e0, _⟩ | ⟨g, cap1, vs, bss, cs, hv, hbs, hgh, hl, hb, hc, hkk, nd⟩
      · rw [e0] at hk; simp at hk
      rw [← HN.out] at hv
      injection hv with hv1 _ hv2
      subst hv1 hv2
      obtain ⟨vi, hvi⟩ : ∃ vi, vs[j]? = some vi := ⟨vs[j]'(by have := HN.out; omega), List.getElem?_eq_getElem _⟩
      obtain ⟨b, hbi⟩ : ∃ b, bss[j]? = some b := ⟨bss[j]'(by have := HN.out; omega), List.getElem?_eq_getElem _⟩
      obtain ⟨a0, a1, a2, a3, a4⟩ := hc j k vi hk hvi
      obtain ⟨uo, uc, rfl⟩ := (hkk j k vi b hk hvi hbi).form
      have hgw := (HJ.out.2.block g (Array.getElem?_eq_some_iff.1 hgh).1).trans hgh
      have k0 : wr.cell? ⟨g, j * 5, none⟩ = some (.int .i64 k.op) := by rw [cell_at hgw]; exact a0
      have k1 : wr.cell? ⟨g, j * 5 + 1, none⟩ = some (.string (tx k.name)) := by rw [cell_at hgw]; exact a1
      have k2 : wr.cell? ⟨g, j * 5 + 2, none⟩ = some (.slice uo k.kids.length uc) := by rw [cell_at hgw]; exact a2
      have k3 : wr.cell? ⟨g, j * 5 + 3, none⟩ = some (.bool k.em) := by rw [cell_at hgw]; exact a3
      have k4 : wr.cell? ⟨g, j * 5 + 4, none⟩ = some (.bool k.en) := by rw [cell_at hgw]; exact a4
      have HK := hid hk
      have HM := hid (spk1_any (w := wr) (k := k) (v := .slice uo k.kids.length uc) ⟨_, _, _, rfl⟩)
      have hkI : (j : Int) < (n : Int) := by omega
      have hk0 : (0 : Int) ≤ (j : Int) := by omega
      clear hk a0 a1 a2 a3 a4 hc hkk nd hbs hl hb hvi hbi hgw hgh
      rcases bool_two (nemB k) with hb | hb
      · rw [hb] at HM
        have HNN := hid (show ∀ i k, i < j + 1 → ks[i]? = some k → nemB k = false from fun i x hi hx => by
          by_cases e : i = j
          · subst e
            rw [HK.out] at hx
            injection hx with hx
            rw [← hx]; exact hb
          · exact HJ.out.1 i x (by omega) hx)
        clear hb
        go_wp2_with (go_at_call 97; refine HM.out.mono ?_; rintro e w2 ⟨rfl, hb2⟩; have B2 := hid hb2; clear hb2)
        go_roundw
        case rel => exact ⟨j + 1, by omega, by go_num, HNN.out, below_2x HJ.out.2 B2.out⟩
        case measure => simp [intOf]; omega
      · rw [hb] at HM
        have HE := hid (show bb = true by
          rw [HBB.out, List.any_eq_true]
          exact ⟨k, List.mem_of_getElem? HK.out, hb⟩)
        clear hb
        go_wp2_with (go_at_call 97; refine HM.out.mono ?_; rintro e w2 ⟨rfl, hb2⟩; have B2 := hid hb2; clear hb2)
        go_ret
        exact ⟨_, rfl, by show decide (0 ≤ (j : Int)) = _; rw [HE.out, decide_eq_true (by omega)], below_2x HJ.out.2 B2.out⟩
    · have hkI : ¬ ((j : Int) < (n : Int)) := by omega
      have HE := hid (show bb = false by
        rw [HBB.out, List.any_eq_false]
        intro k hk
        obtain ⟨i, hi, rfl⟩ := List.mem_iff_getElem.1 hk
        rw [HJ.out.1 i _ (by have := HN.out; omega) (List.getElem?_eq_getElem hi)]; decide)
      clear hlt
      go_wp2
      go_ret
      exact ⟨-1, rfl, by show decide ((0 : Int) ≤ -1) = _; rw [HE.out]; rfl, HJ.out.2⟩

set_option maxRecDepth 20000 in
set_option maxHeartbeats 2000000 in
theorem spContains1_any {w : World} {v : Value} {ks : List Sp} {bs : List Nat} (h : SpS w v ks bs) (hn : ks.length ≤ 1000000) :
    Calls Tryz.prog 96 #[v, .func (.func 97) #[] #[]] w fun e w' => e = .returned (.bool (ks.any nemB)) ∧ Below w.heap.size w w' := by
  have HI := hid (spIndex1_any h hn)
  obtain ⟨ao, cap, rfl⟩ := h.form
  clear h
  go_enter Tryz.func96, Tryz.ntmps96
  go_wp2_with fail
  refine HI.out.mono ?_
  rintro e w2 ⟨i, rfl, hi, hb2⟩
  have HE := hid hi.out
  have B2 := hid hb2
  clear hi hb2
  go_wp2
  go_ret
  exact ⟨by rw [← HE.out]; rfl, B2.out⟩

theorem Tryz.entSp2 : ∀ args w, (callFunc 98 args).run Tryz.prog w = .ok (.enter 98 args) w := fun _ _ => by kernel_rfl
theorem spk2_any {w : World} {k : Sp} {v : Value} (hv : ∃ ao n c, v = .slice ao n c) :
    Calls Tryz.prog 98 #[.agg #[.int .i64 k.op, .string (tx k.name), v, .bool k.em, .bool k.en]] w fun e w' => e = .returned (.bool (emB k)) ∧ Below w.heap.size w w' := by
  obtain ⟨ao, n, c, rfl⟩ := hv
  go_enter Tryz.func98, Tryz.ntmps98
  go_wp2
  go_ret
  exact ⟨rfl, (Below.refl _ _).alloc (Nat.le_refl _) _⟩

set_option maxRecDepth 20000 in
set_option maxHeartbeats 2000000 in
theorem spIndex2_any {w : World} {v : Value} {ks : List Sp} {bs : List Nat} (h : SpS w v ks bs) (hn : ks.length ≤ 1000000) :
    Calls Tryz.prog 128 #[v, .func (.func 98) #[] #[]] w fun e w' => ∃ i : Int, e = .returned (.int .i64 i) ∧ Hid (decide (0 ≤ i) = ks.any emB) ∧ Below w.heap.size w w' := by
  obtain ⟨ao, cap, rfl⟩ := h.form
  obtain ⟨n, hnn⟩ : ∃ n, n = ks.length := ⟨_, rfl⟩
  have HN := hid hnn
  rw [← hnn] at hn h ⊢
  have HS := hid h
  have hent := Tryz.entSp2
  obtain ⟨bb, hbb⟩ : ∃ bb, bb = ks.any emB := ⟨_, rfl⟩
  have HBB := hid hbb
  rw [← hbb]
  clear h hnn hbb
  go_enter Tryz.func128, Tryz.ntmps128
  go_wp2_with fail
  go_loopw [8, 5] (fun i _ wr => ∃ j : Nat, j ≤ n ∧ i = .int .i64 j ∧ Hid ((∀ i k, i < j → ks[i]? = some k → emB k = false) ∧ Below w.heap.size w wr)) (fun i _ _ => n - (intOf i).toNat)
  case atStart => exact ⟨0, Nat.zero_le _, rfl, fun i k hi => absurd hi (Nat.not_lt_zero i), Below.refl _ _⟩
  case round =>
    obtain ⟨j, hj, rfl, HJ⟩ := hrel
    by_cases hlt : j < n
    · obtain ⟨k, hk⟩ : ∃ k, ks[j]? = some k := ⟨ks[j]'(by rw [← HN.out]; exact hlt), List.getElem?_eq_getElem _⟩
      rcases HS.out.at with ⟨e0, _⟩ | ⟨g, cap1, vs, bss, cs, hv, hbs, hgh, hl, hb, hc, hkk, nd⟩
      · rw [e0] at hk; simp at hk
      rw [← HN.out] at hv
      injection hv with hv1 _ hv2
      subst hv1 hv2
      obtain ⟨vi, hvi⟩ : ∃ vi, vs[j]? = some vi := ⟨vs[j]'(by have := HN.out; omega), List.getElem?_eq_getElem _⟩
      obtain ⟨b, hbi⟩ : ∃ b, bss[j]? = some b := ⟨bss[j]'(by have := HN.out; omega), List.getElem?_eq_getElem _⟩
      obtain ⟨a0, a1, a2, a3, a4⟩ := hc j k vi hk hvi
      obtain ⟨uo, uc, rfl⟩ := (hkk j k vi b hk hvi hbi).form
      have hgw := (HJ.out.2.block g (Array.getElem?_eq_some_iff.1 hgh).1).trans hgh
      have k0 : wr.cell? ⟨g, j * 5, none⟩ = some (.int .i64 k.op) := by rw [cell_at hgw]; exact a0
      have k1 : wr.cell? ⟨g, j * 5 + 1, none⟩ = some (.string (tx k.name)) := by rw [cell_at hgw]; exact a1
      have k2 : wr.cell? ⟨g, j * 5 + 2, none⟩ = some (.slice uo k.kids.length uc) := by rw [cell_at hgw]; exact a2
      have k3 : wr.cell? ⟨g, j * 5 + 3, none⟩ = some (.bool k.em) := by rw [cell_at hgw]; exact a3
      have k4 : wr.cell? ⟨g, j * 5 + 4, none⟩ = some (.bool k.en) := by rw [cell_at hgw]; exact a4
      have HK := hid hk
      have HM := hid (spk2_any (w := wr) (k := k) (v := .slice uo k.kids.length uc) ⟨_, _, _, rfl⟩)
      have hkI : (j : Int) < (n : Int) := by omega
      have hk0 : (0 : Int) ≤ (j : Int) := by omega
      clear hk a0 a1 a2 a3 a4 hc hkk nd hbs hl hb hvi hbi hgw hgh
      rcases bool_two (emB k) with hb | hb
      · rw [hb] at HM
        have HNN := hid (show ∀ i k, i < j + 1 → ks[i]? = some k → emB k = false from fun i x hi hx => by
          by_cases e : i = j
          · subst e
            rw [HK.out] at hx
            injection hx with hx
            rw [← hx]; exact hb
          · exact HJ.out.1 i x (by omega) hx)
        clear hb
        go_wp2_with (go_at_call 98; refine HM.out.mono ?_; rintro e w2 ⟨rfl, hb2⟩; have B2 := hid hb2; clear hb2)
        go_roundw
        case rel => exact ⟨j + 1, by omega, by go_num, HNN.out, below_2x HJ.out.2 B2.out⟩
        case measure => simp [intOf]; omega
      · rw [hb] at HM
        have HE := hid (show bb = true by
          rw [HBB.out, List.any_eq_true]
          exact ⟨k, List.mem_of_getElem? HK.out, hb⟩)
        clear hb
        go_wp2_with (go_at_call 98; refine HM.out.mono ?_; rintro e w2 ⟨rfl, hb2⟩; have B2 := hid hb2; clear hb2)
        go_ret
        exact ⟨_, rfl, by show decide (0 ≤ (j : Int)) = _; rw [HE.out, decide_eq_true (by omega)], below_2x HJ.out.2 B2.out⟩
    · have hkI : ¬ ((j : Int) < (n : Int)) := by omega
      have HE := hid (show bb = false by
        rw [HBB.out, List.any_eq_false]
        intro k hk
        obtain ⟨i, hi, rfl⟩ := List.mem_iff_getElem.1 hk
        rw [HJ.out.1 i _ (by have := HN.out; omega) (List.getElem?_eq_getElem hi)]; decide)
      clear hlt
      go_wp2
      go_ret
      exact ⟨-1, rfl, by show decide ((0 : Int) ≤ -1) = _; rw [HE.out]; rfl, HJ.out.2⟩

set_option maxRecDepth 20000 in
set_option maxHeartbeats 2000000 in
theorem spContains2_any {w : World} {v : Value} {ks : List Sp} {bs : List Nat} (h : SpS w v ks bs) (hn : ks.length ≤ 1000000) :
    Calls Tryz.prog 96 #[v, .func (.func 98) #[] #[]] w fun e w' => e = .returned (.bool (ks.any emB)) ∧ Below w.heap.size w w' := by
  have HI := hid (spIndex2_any h hn)
  obtain ⟨ao, cap, rfl⟩ := h.form
  clear h
  go_enter Tryz.func96, Tryz.ntmps96
  go_wp2_with fail
  refine HI.out.mono ?_
  rintro e w2 ⟨i, rfl, hi, hb2⟩
  have HE := hid hi.out
  have B2 := hid hb2
  clear hi hb2
  go_wp2
  go_ret
  exact ⟨by rw [← HE.out]; rfl, B2.out⟩

set_option maxRecDepth 20000 in
set_option maxHeartbeats 2000000 in
theorem takesNone_any {w : World} {g o : Nat} {cs : Array Value} {s : Sp} {v : Value} {bs : List Nat} (hg : w.heap[g]? = some (.cells cs 76 (0, 0))) (hs : SpC cs o s v) (hk : SpS w v s.kids bs) (hn : s.kids.length ≤ 1000000) :
    Calls Tryz.prog 63 #[.pointer (some ⟨g, o, none⟩)] w fun e w' => e = .returned (.bool (noneS s.op s.kids)) ∧ Below w.heap.size w w' := by
  have HC1 := hid (spContains1_any hk hn)
  have HC2 := hid (spContains2_any hk hn)
  obtain ⟨ao, cap, rfl⟩ := hk.form
  obtain ⟨a0, a1, a2, a3, a4⟩ := hs
  have c0 : w.cell? ⟨g, o, none⟩ = some (.int .i64 s.op) := by rw [cell_at hg]; exact a0
  have c2 : w.cell? ⟨g, o + 2, none⟩ = some (.slice ao s.kids.length cap) := by rw [cell_at hg]; exact a2
  have hmf : ∀ (fn : Fn) (first cap : Array Value) (w : World), (Instr.makeFunc fn first cap).run Tryz.prog w = .ok (.func fn first cap) w := fun _ _ _ _ => by kernel_rfl
  have HD := hid (show Below w.heap.size w w from Below.refl _ _)
  clear hg a0 a1 a2 a3 a4 hk hn
  by_cases o6 : s.op = 6
  · have HE := hid (show noneS s.op s.kids = true by unfold noneS; rw [if_pos (Or.inl o6)])
    rw [HE.out]
    rw [o6] at c0
    go_enter Tryz.func63, Tryz.ntmps63
    go_wp2
    go_ret
    exact ⟨rfl, HD.out⟩
  by_cases o8 : s.op = 8
  · have HE := hid (show noneS s.op s.kids = true by unfold noneS; rw [if_pos (Or.inr o8)])
    rw [HE.out]
    rw [o8] at c0
    go_enter Tryz.func63, Tryz.ntmps63
    go_wp2
    go_ret
    exact ⟨rfl, HD.out⟩
  by_cases o4 : s.op = 4
  · have HE := hid (show noneS s.op s.kids = !(s.kids.any nemB) by
      unfold noneS
      rw [if_neg (by omega), if_pos o4]
      induction s.kids with
      | nil => rfl
      | cons a t ih => rw [List.all_cons, List.any_cons, ih]; unfold nemB; cases a.em <;> simp)
    rw [HE.out]
    rw [o4] at c0
    obtain ⟨bb, hbb⟩ : ∃ bb, bb = s.kids.any nemB := ⟨_, rfl⟩
    rw [← hbb] at HC1 ⊢
    clear hbb HE
    go_enter Tryz.func63, Tryz.ntmps63
    go_wp2_with fail
    refine HC1.out.mono ?_
    rintro e w2 ⟨rfl, hb2⟩
    have B2 := hid hb2
    clear hb2
    go_wp2
    go_ret
    exact ⟨rfl, B2.out⟩
  · have HE := hid (show noneS s.op s.kids = s.kids.any emB by
      unfold noneS
      rw [if_neg (by omega), if_neg o4]; rfl)
    rw [HE.out]
    have p6 : (s.op == 6) = false := by simpa using o6
    have p8 : (s.op == 8) = false := by simpa using o8
    have p4 : (s.op == 4) = false := by simpa using o4
    obtain ⟨bb, hbb⟩ : ∃ bb, bb = s.kids.any emB := ⟨_, rfl⟩
    rw [← hbb] at HC2 ⊢
    clear hbb HE
    go_enter Tryz.func63, Tryz.ntmps63
    go_wp2_with fail
    refine HC2.out.mono ?_
    rintro e w2 ⟨rfl, hb2⟩
    have B2 := hid hb2
    clear hb2
    go_wp2
    go_ret
    exact ⟨rfl, B2.out⟩
end Go.Proofs.YtagppgncanimaaaGreatDoor
namespace Go.Proofs.YtagppgncanimaaaGreatDoor
open Go.RowKit

set_option maxRecDepth 20000 in
set_option maxHeartbeats 2000000 in
theorem open_any {w : World} {pb n cap : Nat} {ao : Option Addr} (h : w.cell? ⟨pb, 2, none⟩ = some (.slice ao n cap)) (hn : n ≤ 10000000) :
    Calls Tryz.prog 93 #[.pointer (some ⟨pb, 0, none⟩)] w fun e w' => e = .returned (.int .i64 ((n : Int) - 1)) ∧ w = w' := by
  have hw : IntKind.i64.wrap ((n : Int) - 1) = (n : Int) - 1 := by unfold IntKind.wrap; simp [IntKind.bits, IntKind.signed]; omega
  go_enter Tryz.func93, Tryz.ntmps93
  go_wp2
  go_ret
  exact ⟨rfl, rfl⟩

set_option maxRecDepth 20000 in
set_option maxHeartbeats 2000000 in
theorem last_any {w : World} {pb n N cap gb : Nat} (h : w.cell? ⟨pb, 2, none⟩ = some (.slice (some ⟨gb, 0, none⟩) N cap)) (hN : N = n + 1) (hn : n ≤ 1000000) :
    Calls Tryz.prog 94 #[.pointer (some ⟨pb, 0, none⟩)] w fun e w' => e = .returned (.pointer (some ⟨gb, n * 2, none⟩)) ∧ Below w.heap.size w w' := by
  have h' : w.drew.cell? ⟨pb, 2, none⟩ = some (.slice (some ⟨gb, 0, none⟩) N cap) := h
  have HO := hid (open_any h' (by omega))
  rw [show ((N : Int) - 1) = (n : Int) by omega] at HO
  have HD := hid (show Below w.heap.size w w.drew from (Below.refl _ _).drew)
  have hI : (n : Int) < (N : Int) := by omega
  have h0 : (0 : Int) ≤ (n : Int) := by omega
  clear hN
  go_enter Tryz.func94, Tryz.ntmps94
  go_wp2_with fail
  go_region_held3 (fun w' => w'.cell? ⟨pb, 2, none⟩ = some (.slice (some ⟨gb, 0, none⟩) N cap)) (first | (go_keep; done) | exact h') (first | (go_at_call 93; refine HO.out.mono ?_; rintro en w1 ⟨rfl, rfl⟩))
  go_wp2
  go_ret
  exact ⟨by simp, HD.out⟩

set_option maxHeartbeats 2000000 in
theorem must_true {w : World} {pb : Nat} : Calls Tryz.prog 92 #[.pointer (some ⟨pb, 0, none⟩), .bool true] w fun e w' => e = .returned (.tuple #[]) ∧ w = w' := by
  go_enter Tryz.func92, Tryz.ntmps92
  go_wp2
  exact bodyPost_end (v := .tuple #[]) (by simp [results, Tryz.results92, go_sem]) rfl ⟨rfl, rfl⟩

set_option maxHeartbeats 2000000 in
theorem done_any {w : World} {pb n cap a : Nat} {ao : Option Addr} (h0 : w.cell? ⟨pb, 0, none⟩ = some (.slice ao n cap)) (h1 : w.cell? ⟨pb, 1, none⟩ = some (.int .i64 a)) :
    Calls Tryz.prog 90 #[.pointer (some ⟨pb, 0, none⟩)] w fun e w' => e = .returned (.bool (decide (a = n))) ∧ Below w.heap.size w w' := by
  have HD := hid (show ∀ k, Below w.heap.size w (w.drewN k) from fun k => ⟨rfl, rfl, rfl, Nat.le_refl _, fun _ _ => rfl⟩)
  go_enter Tryz.func90, Tryz.ntmps90
  go_wp2_with fail
  go_quiet (fail)
  go_wp2
  go_ret
  exact ⟨by rw [show ((a : Int) == (n : Int)) = decide (a = n) by rw [Bool.eq_iff_iff]; simp; omega]; rfl, HD.out _⟩

set_option maxHeartbeats 2000000 in
theorem gnext_any {w : World} {pb a : Nat} {vw : Value} {ts : List (List UInt8)} {t : List UInt8} (hW : WdAt w vw ts) (h0 : w.cell? ⟨pb, 0, none⟩ = some vw) (h1 : w.cell? ⟨pb, 1, none⟩ = some (.int .i64 a)) (ht : ts[a]? = some t) (_hn : ts.length ≤ 10000000) :
    Calls Tryz.prog 118 #[.pointer (some ⟨pb, 0, none⟩)] w fun e w' => e = .returned (.string (tx t)) ∧ Below w.heap.size w w' := by
  obtain ⟨ao, cap, rfl, q⟩ := hW
  have hlt := (List.getElem?_eq_some_iff.1 ht).1
  obtain ⟨g, o, rfl, hg, hc⟩ : ∃ g o, ao = some ⟨g, o, none⟩ ∧ g < w.heap.size ∧ ∀ (i : Nat) (t : List UInt8), ts[i]? = some t → w.cell? ⟨g, o + i * 3, none⟩ = some (.string (tx t)) := by
    rcases q with q | q
    · rw [q] at ht; simp at ht
    · exact q
  have k0 := hc a t ht
  obtain ⟨n, hnn⟩ : ∃ n, n = ts.length := ⟨_, rfl⟩
  rw [← hnn] at h0 hlt
  clear hc q ht hnn
  have HD := hid (done_any h0 h1)
  rw [decide_eq_false (by omega : ¬ a = n)] at HD
  have hI : (a : Int) < (n : Int) := by omega
  have hI0 : (0 : Int) ≤ (a : Int) := by omega
  have hpb := World.block_lt_of_cell? w _ h0
  go_enter Tryz.func118, Tryz.ntmps118
  go_wp2_with fail
  refine HD.out.mono ?_
  rintro en w1 ⟨rfl, hb1⟩
  have z0 := (hb1.cell (p := ⟨pb, 0, none⟩) hpb).trans h0
  have z1 := (hb1.cell (p := ⟨pb, 1, none⟩) hpb).trans h1
  have z2 := (hb1.cell (p := ⟨g, o + a * 3, none⟩) hg).trans k0
  have HB := hid hb1
  clear hb1
  go_wp2_with fail
  go_quiet (fail)
  go_wp2
  go_ret
  exact ⟨by simp, ⟨HB.out.os, HB.out.tape, HB.out.output, HB.out.size, HB.out.block⟩⟩

set_option maxHeartbeats 2000000 in
theorem gpass_any {w : World} {pb a : Nat} {v0 v2 v3 : Value} (h : w.heap[pb]? = some (.cells #[v0, .int .i64 a, v2, v3] 143 (0, 0))) (hn : a ≤ 10000000) :
    Calls Tryz.prog 125 #[.pointer (some ⟨pb, 0, none⟩)] w fun e w' => e = .returned (.tuple #[]) ∧ w' = w.setCell ⟨pb, 1, none⟩ (.int .i64 ((a + 1 : Nat) : Int)) := by
  have h1 : w.cell? ⟨pb, 1, none⟩ = some (.int .i64 a) := by rw [cell_at h]; rfl
  have y1 : w.frozen? ⟨pb, 1, none⟩ = false := free_of h
  have hw : IntKind.i64.wrap ((a : Int) + 1) = (a : Int) + 1 := by unfold IntKind.wrap; simp [IntKind.bits, IntKind.signed]; omega
  go_enter Tryz.func125, Tryz.ntmps125
  go_wp2
  exact bodyPost_end (v := .tuple #[]) (by simp [results, Tryz.results125, go_sem]) rfl ⟨rfl, by simp⟩
end Go.Proofs.YtagppgncanimaaaGreatDoor
namespace Go.Proofs.YtagppgncanimaaaGreatDoor
open Go.RowKit

/-- A part was put behind the others. -/
def PutPost (B : Nat) (w : World) (pb : Nat) (K : Nat → Prop) (vw : Value) (a b : Nat) (vg : Value) (gi : List Grp) (g : Grp) (ps : Prs) (en : Ending) (w' : World) : Prop :=
  en = .returned (.tuple #[]) ∧ ∃ v', PsAt B w' pb K vw a b vg (gi ++ [⟨g.ahead, ps, g.va, v'⟩]) ∧ Below B w w'
theorem blocks_apart {gi : List Grp} {g : Grp} (h : ((gi ++ [g]).flatMap Grp.blocks).Nodup) : g.blocks.Nodup := by
  rw [List.flatMap_append, List.nodup_append] at h
  simpa using h.2.1
/-- The parts' row was changed or grown, and its value stored. -/
theorem PsAt.parted {B : Nat} {w w' : World} {pb : Nat} {K K' : Nat → Prop} {vw : Value} {a b gb cap : Nat} {gi : List Grp} {g : Grp} {v' : Value} {ps : Prs} (h : PsAt B w pb K vw a b (.slice (some ⟨gb, 0, none⟩) (gi.length + 1) cap) (gi ++ [g]))
    (hb : ∀ k, k < w.heap.size → k ≠ gb → g.vp.ownBlock ≠ some k → w'.heap[k]? = w.heap[k]?) (hs : w.heap.size ≤ w'.heap.size) (hK : ∀ k, K k → K' k) (hK' : ∀ k, K' k → K k ∨ w.heap.size ≤ k ∧ ∃ cs, w'.heap[k]? = some (.cells cs 25 (0, 0)))
    (hownG : w'.ownsRow B 147 2 (.slice (some ⟨gb, 0, none⟩) (gi.length + 1) cap) (gi.length + 1) ((flatG (gi ++ [g])).set (gi.length * 2 + 1) v'))
    (hown : w'.ownsRow B 25 3 v' ps.length (flatP ps)) (hk : ∀ p ∈ ps, RxK K' w' p.2 p.1.kids) (hat : ∀ k, v'.ownBlock = some k → g.vp.ownBlock = some k ∨ w.heap.size ≤ k ∧ ¬ K' k) :
    PsAt B w' pb K' vw a b (.slice (some ⟨gb, 0, none⟩) (gi.length + 1) cap) (gi ++ [⟨g.ahead, ps, g.va, v'⟩]) := by
  have hgm : g ∈ gi ++ [g] := by simp
  obtain ⟨csg, hgb⟩ := own_block h.own (g := gb) rfl
  have hgl := (Array.getElem?_eq_some_iff.1 hgb).1
  have hne : ∀ k, (∃ cs, w.heap[k]? = some (.cells cs 25 (0, 0))) → k ≠ gb := fun k ⟨cs, hc⟩ => ne_typeX hc hgb (by decide)
  have keepK : KeepK K w w' := ⟨hs, fun k hk hl => hb k hl (hne k (h.kt k hk)) fun e => h.free g hgm k (blocks_mem.2 (Or.inr e)) hk⟩
  have hnd := blocks_apart h.nd
  have hAP : ∀ k, g.va.ownBlock = some k → g.vp.ownBlock ≠ some k := fun k h1 h2 => by
    unfold Grp.blocks at hnd
    rw [h1, h2] at hnd
    simp at hnd
  have hfr : ∀ k, k ∈ g.blocks → ¬ K' k := fun k hk hK2 => by
    rcases hK' k hK2 with h1 | ⟨h1, _⟩
    · exact h.free g hgm k hk h1
    · obtain ⟨cs, hc⟩ := h.type hgm hk
      have := (Array.getElem?_eq_some_iff.1 hc).1
      omega
  refine h.upd (fun k hl hn hv => hb k hl (fun e => hv (by rw [e]; rfl)) fun e => hn (blocks_mem.2 (Or.inr e))) hs ?_ hK hK' ?_ ⟨hown, hk⟩ ?_ (fun k hk => ?_) (fun k hk => ?_)
  · rw [← flatG_setP gi g v' g.ahead ps]; exact hownG
  · exact ((h.rowA g hgm).on keepK fun k hk => hb k ((h.rowA g hgm).own.lt k hk).2 (hne k ((h.rowA g hgm).block hk)) (fun e => hAP k hk e)).mono hK (Nat.le_refl _)
  · unfold Grp.blocks
    cases hva : g.va.ownBlock with
    | none => cases v'.ownBlock <;> simp
    | some x =>
      cases hvv : v'.ownBlock with
      | none => simp
      | some y =>
        simp
        rintro rfl
        rcases hat x hvv with e | e
        · exact hAP x hva e
        · have := ((h.rowA g hgm).own.lt x hva).2; omega
  · rcases blocks_mem.1 hk with hk | hk
    · exact Or.inl (blocks_mem.2 (Or.inl hk))
    · rcases hat k hk with e | e
      · exact Or.inl (blocks_mem.2 (Or.inr e))
      · exact Or.inr e.1
  · rcases blocks_mem.1 hk with hk | hk
    · exact hfr k (blocks_mem.2 (Or.inl hk))
    · rcases hat k hk with e | e
      · exact hfr k (blocks_mem.2 (Or.inr e))
      · exact e.2
/-- A row's last element and a field of another block were stored. -/
structure Stored (B : Nat) (w3 W : World) (gb g3 m cap3 N capN j : Nat) (xs ys : List Value) (v' x y z : Value) : Prop where
  size : W.heap.size = w3.heap.size
  os : W.os = w3.os
  tape : W.tape = w3.tape
  output : W.output = w3.output
  rest : ∀ k, k ≠ gb → k ≠ g3 → W.heap[k]? = w3.heap[k]?
  row : W.ownsRow B 25 3 (.slice (some ⟨g3, 0, none⟩) (m + 1) cap3) (m + 1) (xs ++ [x, y, z])
  field : W.ownsRow B 147 2 (.slice (some ⟨gb, 0, none⟩) N capN) N (ys.set j v')
theorem set_three {xs : List Value} {m : Nat} (hl : xs.length = m * 3) (a b c x y z : Value) : (((xs ++ [a, b, c]).set (m * 3) x).set (m * 3 + 1) y).set (m * 3 + 2) z = xs ++ [x, y, z] := by
  rw [List.set_append_right _ _ (by omega), List.set_append_right _ _ (by omega), List.set_append_right _ _ (by omega), hl]
  simp
theorem own_farX {w : World} {B : Nat} {e : TypeId} {size : Nat} {v : Value} {n : Nat} {xs : List Value} {a : Addr} {u : Value} (h : w.ownsRow B e size v n xs) (hv : v.ownBlock ≠ some a.block) : (w.setCell a u).ownsRow B e size v n xs :=
  own_same h fun g hg => Below.heap_setCell _ _ _ _ (fun e => hv (by rw [hg, e]))
theorem stored_a {B : Nat} {w3 : World} {gb g3 m cap3 N capN j : Nat} {xs ys : List Value} {v' x y z a b c : Value} (hP : w3.ownsRow B 25 3 (.slice (some ⟨g3, 0, none⟩) (m + 1) cap3) (m + 1) (xs ++ [a, b, c])) (hl : xs.length = m * 3) (hG : w3.ownsRow B 147 2 (.slice (some ⟨gb, 0, none⟩) N capN) N ys) (hne : ¬ g3 = gb) :
    Stored B w3 ((((w3.setCell ⟨gb, j, none⟩ v').setCell ⟨g3, m * 3, none⟩ x).setCell ⟨g3, m * 3 + 1, none⟩ y).setCell ⟨g3, m * 3 + 2, none⟩ z) gb g3 m cap3 N capN j xs ys v' x y z := by
  refine ⟨by simp, rfl, rfl, rfl, fun k h1 h2 => ?_, ?_, ?_⟩
  · rw [Below.heap_setCell _ _ _ _ (by exact h2), Below.heap_setCell _ _ _ _ (by exact h2), Below.heap_setCell _ _ _ _ (by exact h2), Below.heap_setCell _ _ _ _ (by exact h1)]
  · rw [← set_three hl a b c x y z]
    exact (((own_farX hP (by simp [Value.ownBlock]; exact hne)).stored _ _).1.stored _ _).1.stored _ _ |>.1
  · exact own_farX (own_farX (own_farX (hG.stored _ _).1 (by simp [Value.ownBlock]; exact fun e => hne e.symm)) (by simp [Value.ownBlock]; exact fun e => hne e.symm)) (by simp [Value.ownBlock]; exact fun e => hne e.symm)
theorem stored_b {B : Nat} {w3 : World} {gb g3 m cap3 N capN j : Nat} {xs ys : List Value} {v' x y z a b c : Value} (hP : w3.ownsRow B 25 3 (.slice (some ⟨g3, 0, none⟩) (m + 1) cap3) (m + 1) (xs ++ [a, b, c])) (hl : xs.length = m * 3) (hG : w3.ownsRow B 147 2 (.slice (some ⟨gb, 0, none⟩) N capN) N ys) (hne : ¬ g3 = gb) :
    Stored B w3 ((((w3.setCell ⟨g3, m * 3, none⟩ x).setCell ⟨g3, m * 3 + 1, none⟩ y).setCell ⟨g3, m * 3 + 2, none⟩ z).setCell ⟨gb, j, none⟩ v') gb g3 m cap3 N capN j xs ys v' x y z := by
  refine ⟨by simp, rfl, rfl, rfl, fun k h1 h2 => ?_, ?_, ?_⟩
  · rw [Below.heap_setCell _ _ _ _ (by exact h1), Below.heap_setCell _ _ _ _ (by exact h2), Below.heap_setCell _ _ _ _ (by exact h2), Below.heap_setCell _ _ _ _ (by exact h2)]
  · rw [← set_three hl a b c x y z]
    exact own_farX ((((hP.stored _ _).1.stored _ _).1.stored _ _).1) (by simp [Value.ownBlock]; exact hne)
  · exact ((own_farX (own_farX (own_farX hG (by simp [Value.ownBlock]; exact fun e => hne e.symm)) (by simp [Value.ownBlock]; exact fun e => hne e.symm)) (by simp [Value.ownBlock]; exact fun e => hne e.symm)).stored _ _).1

set_option maxRecDepth 20000 in
set_option maxHeartbeats 2000000 in
theorem put_any {B : Nat} {w : World} {pb : Nat} {K : Nat → Prop} {vw : Value} {a b : Nat} {vg : Value} {gi : List Grp} {g : Grp} {r : Rx} {u : Option Addr} {n c : Nat} (h : PsAt B w pb K vw a b vg (gi ++ [g])) (hr : RxK K w (.slice u n c) r.kids) (hn : gi.length ≤ 100000) (hp : g.parts.length ≤ 1000000) :
    Calls Tryz.prog 124 #[.pointer (some ⟨pb, 0, none⟩), .agg #[.int .i64 r.op, .string (tx r.name), .slice u n c]] w fun en w' => PutPost B w pb K vw a b vg gi g (g.parts ++ [(r, .slice u n c)]) en w' := by
  obtain ⟨i0, hi, hz0, hz1, hz2⟩ := info_parts Tryz.infoRegX
  have HI := hid hi
  have HZ0 := hid hz0
  have HZ1 := hid hz1
  have HZ2 := hid hz2
  clear hi hz0 hz1 hz2
  obtain ⟨gb, cap, rfl, hgB, hgl, hgp, -⟩ := h.last
  have hBp := h.hB
  obtain ⟨av, vc, hvp⟩ := own_form (h.rowP g (by simp)).own
  obtain ⟨m, hm⟩ : ∃ m, m = g.parts.length := ⟨_, rfl⟩
  have HM := hid hm
  rw [← hm] at hvp hp
  have HVP := hid hvp
  have H := hid h
  have HR := hid hr
  have HBo := hid (fun (ob : Obj) => h.below ((Below.refl _ _).alloc (Nat.le_refl _) ob))
  have hpbl := h.pbl
  obtain ⟨G, hG⟩ : ∃ G, G = gi.length := ⟨_, rfl⟩
  have HG := hid hG
  have HL := hid (fun (ob : Obj) => last_any (n := G) (N := gi.length + 1) (HBo.out ob).cells.1.2.2.1 (by omega) (by omega))
  rw [← hG] at hn
  clear h hr hm hvp hG
  have HS := hid (fun (w1 : World) (ob : Obj) (hb : Below (w.alloc ob).heap.size (w.alloc ob) w1) => (by
    have h1 := (HBo.out ob).below hb
    obtain ⟨gb', cap', e, _, _, _, _, k0, k1, f0, f1, _⟩ := h1.last
    cases e
    rw [HVP.out, ← HG.out] at k1
    rw [← HG.out] at f1
    exact ⟨⟨k1, f1⟩, h1⟩ : (w1.cell? ⟨gb, G * 2 + 1, none⟩ = some (.slice av m vc) ∧ w1.frozen? ⟨gb, G * 2 + 1, none⟩ = false) ∧ PsAt B w1 pb K vw a b (.slice (some ⟨gb, 0, none⟩) (gi.length + 1) cap) (gi ++ [g])))
  go_enter Tryz.func124, Tryz.ntmps124
  go_wp2_with fail
  refine (HL.out _).mono ?_
  rintro en w1 ⟨rfl, hb1⟩
  obtain ⟨⟨k1, f1⟩, h1⟩ := HS.out _ _ hb1
  have H1 := hid h1
  have x0 := (hb1.cell (p := ⟨w.heap.size, 0, none⟩) (by simp)).trans (show (w.alloc _).cell? ⟨w.heap.size, 0, none⟩ = some (.int .i64 r.op) by rw [cell_at (new_0 _ _)]; rfl)
  have x1 := (hb1.cell (p := ⟨w.heap.size, 1, none⟩) (by simp)).trans (show (w.alloc _).cell? ⟨w.heap.size, 1, none⟩ = some (.string (tx r.name)) by rw [cell_at (new_0 _ _)]; rfl)
  have x2 := (hb1.cell (p := ⟨w.heap.size, 2, none⟩) (by simp)).trans (show (w.alloc _).cell? ⟨w.heap.size, 2, none⟩ = some (.slice u n c) by rw [cell_at (new_0 _ _)]; rfl)
  have B1 := hid (show Below w.heap.size w w1 from ((Below.refl _ _).alloc (Nat.le_refl _) _).trans (hb1.mono (by simp)))
  clear hb1 h1
  go_wp2_with fail
  have HAP := hid (fun (ob : Obj) => (by
    have h2 := ((H1.out.rowP g (by simp)).below ((Below.refl _ _).alloc (Nat.le_refl _) ob)).own
    rw [HVP.out, ← HM.out] at h2
    exact h2 : (w1.alloc ob).ownsRow B 25 3 (.slice av m vc) m (flatP g.parts)))
  have hw1 := B1.out.size
  have hbl : w.heap.size < w1.heap.size := World.block_lt_of_cell? w1 _ x0
  have hgl1 : gb < w1.heap.size := by omega
  have x0' : ∀ o, (w1.alloc o).cell? ⟨w.heap.size, 0, none⟩ = some (.int .i64 r.op) := fun o => (((Below.refl w1.heap.size w1).alloc (Nat.le_refl _) o).cell (by exact hbl)).trans x0
  have x1' : ∀ o, (w1.alloc o).cell? ⟨w.heap.size, 1, none⟩ = some (.string (tx r.name)) := fun o => (((Below.refl w1.heap.size w1).alloc (Nat.le_refl _) o).cell (by exact hbl)).trans x1
  have x2' : ∀ o, (w1.alloc o).cell? ⟨w.heap.size, 2, none⟩ = some (.slice u n c) := fun o => (((Below.refl w1.heap.size w1).alloc (Nat.le_refl _) o).cell (by exact hbl)).trans x2
  have k1' : ∀ o, (w1.alloc o).cell? ⟨gb, G * 2 + 1, none⟩ = some (.slice av m vc) := fun o => (((Below.refl w1.heap.size w1).alloc (Nat.le_refl _) o).cell (by exact hgl1)).trans k1
  have hBw1 : B ≤ w1.heap.size := by have := H1.out.pbl; omega
  have HBW := hid (fun (ob : Obj) => (by simp only [World.size_alloc]; omega : B ≤ (w1.alloc ob).heap.size))
  have hmI : (m : Int) < (m : Int) + 1 := by omega
  have hmI0 : (0 : Int) ≤ (m : Int) := by omega
  have HGB := hid (fun (w3 : World) (ob : Obj) (hg : (w1.alloc ob).drew.grownBy w3 (Value.slice av m vc).ownBlock) => (by
    obtain ⟨csg, hgb⟩ := own_block H1.out.own (g := gb) rfl
    have hne : (Value.slice av m vc).ownBlock ≠ some gb := fun e => by
      rw [← HVP.out] at e
      obtain ⟨cs, hc⟩ := (H1.out.rowP g (by simp)).block e
      exact ne_typeX hc hgb (by decide) rfl
    have hgl1 := (Array.getElem?_eq_some_iff.1 hgb).1
    have hh : w3.heap[gb]? = w1.heap[gb]? := (hg.block gb (by show gb < (w1.alloc ob).heap.size; simp only [World.size_alloc]; omega) (fun e => hne e.symm)).trans (Below.heap_alloc _ _ _ hgl1)
    exact ⟨(World.cell?_of_block (by exact hh)).trans k1, (World.frozen?_of_block (by exact hh)).trans f1⟩ : w3.cell? ⟨gb, G * 2 + 1, none⟩ = some (.slice av m vc) ∧ w3.frozen? ⟨gb, G * 2 + 1, none⟩ = false))
  have HRW := hid (fun (w3 : World) (g3 cap3 : Nat) (hown : w3.ownsRow B 25 3 (.slice (some ⟨g3, 0, none⟩) (m + 1) cap3) (m + 1) (flatP g.parts ++ [.int .i64 0, .string (tx []), .slice none 0 0])) => (by
    have hl : (flatP g.parts).length = m * 3 := by rw [flatP_len, HM.out]
    have hc := (ownX_form hown (by omega))
    obtain ⟨g', c', e, _, _, hc⟩ := hc
    cases e
    refine ⟨⟨hc _ _ ?_, hc _ _ ?_, hc _ _ ?_⟩, hown.frozenAt _, hown.frozenAt _, hown.frozenAt _⟩
    · rw [List.getElem?_append_right (by omega), hl]; simp
    · rw [List.getElem?_append_right (by omega), hl]; simp
    · rw [List.getElem?_append_right (by omega), hl]; simp : (w3.cell? ⟨g3, m * 3, none⟩ = some (.int .i64 0) ∧ w3.cell? ⟨g3, m * 3 + 1, none⟩ = some (.string (tx [])) ∧ w3.cell? ⟨g3, m * 3 + 2, none⟩ = some (.slice none 0 0)) ∧ w3.frozen? ⟨g3, m * 3, none⟩ = false ∧ w3.frozen? ⟨g3, m * 3 + 1, none⟩ = false ∧ w3.frozen? ⟨g3, m * 3 + 2, none⟩ = false))
  have HNE := hid (fun (g3 : Nat) (hat : (Value.slice av m vc).ownBlock = some g3 ∨ g3 = w1.heap.size + 1) => (by
    obtain ⟨csg, hgb⟩ := own_block H1.out.own (g := gb) rfl
    have hgl1 := (Array.getElem?_eq_some_iff.1 hgb).1
    rcases hat with e | e
    · rw [← HVP.out] at e
      obtain ⟨cs, hc⟩ := (H1.out.rowP g (by simp)).block e
      exact ne_typeX hc hgb (by decide)
    · omega : ¬ g3 = gb))
  have HPL := hid (show (flatP g.parts).length = m * 3 by rw [flatP_len, HM.out])
  have HGW := hid (fun (w3 : World) (ob : Obj) (hg : (w1.alloc ob).drew.grownBy w3 (Value.slice av m vc).ownBlock) => (by
    have h2 := H1.out.own
    have h3 : w1.ownsRow B 147 2 (.slice (some ⟨gb, 0, none⟩) (gi.length + 1) cap) (gi.length + 1) (flatG (gi ++ [g])) := by simpa using h2
    obtain ⟨csg, hgb⟩ := own_block H1.out.own (g := gb) rfl
    refine own_same h3 fun k hk => ?_
    have hk' : gb = k := by simpa [Value.ownBlock] using hk
    subst hk'
    have hne : (Value.slice av m vc).ownBlock ≠ some gb := fun e => by
      rw [← HVP.out] at e
      obtain ⟨cs, hc⟩ := (H1.out.rowP g (by simp)).block e
      exact ne_typeX hc hgb (by decide) rfl
    exact (hg.block gb (by show gb < (w1.alloc ob).heap.size; simp only [World.size_alloc]; omega) (fun e => hne e.symm)).trans (Below.heap_alloc _ _ _ hgl1) : w3.ownsRow B 147 2 (.slice (some ⟨gb, 0, none⟩) (gi.length + 1) cap) (gi.length + 1) (flatG (gi ++ [g]))))
  have HFIN := hid (fun (w3 : World) (ob : Obj) (g3 cap3 : Nat) (hown : w3.ownsRow B 25 3 (.slice (some ⟨g3, 0, none⟩) (m + 1) cap3) (m + 1) (flatP g.parts ++ [.int .i64 0, .string (tx []), .slice none 0 0])) (hg : (w1.alloc ob).drew.grownBy w3 (Value.slice av m vc).ownBlock) (hat : (Value.slice av m vc).ownBlock = some g3 ∨ g3 = w1.heap.size + 1) (W : World) (hW : Stored B w3 W gb g3 m cap3 (gi.length + 1) cap (G * 2 + 1) (flatP g.parts) (flatG (gi ++ [g])) (.slice (some ⟨g3, 0, none⟩) (m + 1) cap3) (.int .i64 r.op) (.string (tx r.name)) (.slice u n c)) => (by
    have hs3 : w1.heap.size + 1 ≤ w3.heap.size := by have := hg.size; simp only [World.drew, World.size_alloc] at this; exact this
    have hvpb : g.vp.ownBlock = (Value.slice av m vc).ownBlock := by rw [HVP.out]
    have hrest : ∀ k, k < w1.heap.size → k ≠ gb → g.vp.ownBlock ≠ some k → W.heap[k]? = w1.heap[k]? := fun k hk h1 h2 => by
      rw [hvpb] at h2
      have hk3 : k ≠ g3 := by
        rcases hat with e | e
        · intro e2; subst e2; exact h2 e
        · omega
      rw [hW.rest k h1 hk3, hg.block k (by show k < (w1.alloc ob).heap.size; simp only [World.size_alloc]; omega) (fun e => h2 e.symm)]
      exact Below.heap_alloc _ _ _ hk
    have hvB : ∀ k, g.vp.ownBlock = some k → B ≤ k := fun k hk => ((H1.out.rowP g (by simp)).own.lt k hk).1
    have hkeep : KeepK K w1 W := ⟨by rw [hW.size]; omega, fun k hk hl => hrest k hl (by
      obtain ⟨cs, hc⟩ := H1.out.kt k hk
      obtain ⟨csg, hgb⟩ := own_block H1.out.own (g := gb) rfl
      exact ne_typeX hc hgb (by decide)) (fun e => H1.out.free g (by simp) k (blocks_mem.2 (Or.inr e)) hk)⟩
    refine ⟨rfl, .slice (some ⟨g3, 0, none⟩) (m + 1) cap3, ?_, ?_⟩
    · refine H1.out.parted hrest (by rw [hW.size]; omega) (fun k hk => hk) (fun k hk => Or.inl hk) (by rw [← HG.out]; exact HG.out ▸ hW.field) ?_ (fun p hp => ?_) (fun k hk => ?_)
      · rw [flatP_app, List.length_append, ← HM.out]; exact hW.row
      · rcases List.mem_append.1 hp with hp | hp
        · exact ((H1.out.rowP g (by simp)).kids p hp).on hkeep
        · rw [List.mem_singleton.1 hp]
          exact (HR.out.on (.below B1.out)).on hkeep
      · have hk' : g3 = k := by simpa [Value.ownBlock] using hk
        subst hk'
        rcases hat with e | e
        · exact Or.inl (by rw [hvpb]; exact e)
        · exact Or.inr ⟨by omega, fun hK => by have := H1.out.lt _ hK; omega⟩
    · have hbw : B ≤ w.heap.size := by have := H.out.pbl; omega
      refine ⟨hW.os.trans (hg.os.trans B1.out.os), hW.tape.trans (hg.tape.trans B1.out.tape), hW.output.trans (hg.output.trans B1.out.output), by rw [hW.size]; omega, fun k hk => ?_⟩
      rw [hrest k (by omega) (by omega) (fun e => by have := hvB k e; omega), B1.out.block k (by omega)] : PutPost B w pb K vw a b (.slice (some ⟨gb, 0, none⟩) (gi.length + 1) cap) gi g (g.parts ++ [(r, .slice u n c)]) (.returned (.tuple #[])) W))
  go_region_law (refine step_append_lies _ (by rfl) (.tmp 10) (.tmp 13) 23 (by rfl) B 25 i0 (.agg #[.int .i64 0, .string (tx []), .slice none 0 0]) 3 48 Tryz.underlying23 HI.out HZ0.out HZ1.out HZ2.out rfl (by decide) (.slice av m vc) m (flatP g.parts) (by rfl) (by exact HAP.out _) ⟨w1.heap.size, 0, none⟩ 1 1 [.int .i64 0, .string (tx []), .slice none 0 0] (by rfl) (by rfl) (by exact new_cells w1 #[.int .i64 0, .string (tx []), .slice none 0 0] _ _ rfl) (by simp [Value.oneCell']) (by omega) (by unfold maxLen; omega) (by omega) (by exact HBW.out _) (w1.heap.size + 1) (by simp) ?_; intro g3 cap3 w3 hown3 hgrow3 hat3 hlt3; obtain ⟨q1, q2⟩ := HGB.out w3 _ hgrow3; obtain ⟨⟨q3, q4, q5⟩, q6, q7, q8⟩ := HRW.out w3 g3 cap3 hown3; have q9 := HNE.out g3 hat3; have q10 : ¬ gb = g3 := fun e => q9 e.symm)
  all_goals (
    have hfin : ∀ W, Stored B w3 W gb g3 m cap3 (gi.length + 1) cap (G * 2 + 1) (flatP g.parts) (flatG (gi ++ [g])) (.slice (some ⟨g3, 0, none⟩) (m + 1) cap3) (.int .i64 r.op) (.string (tx r.name)) (.slice u n c) → PutPost B w pb K vw a b (.slice (some ⟨gb, 0, none⟩) (gi.length + 1) cap) gi g (g.parts ++ [(r, .slice u n c)]) (.returned (.tuple #[])) W := HFIN.out _ _ _ _ hown3 hgrow3 hat3
    have hst1 := hfin _ (stored_a hown3 HPL.out (HGW.out _ _ hgrow3) q9)
    have hst2 := hfin _ (stored_b hown3 HPL.out (HGW.out _ _ hgrow3) q9)
    have F1 := hid hst1
    have F2 := hid hst2
    clear hfin hst1 hst2 hown3 hgrow3 hat3
    go_wp2
    first
      | exact bodyPost_end (v := .tuple #[]) (by simp [results, Tryz.results124, go_sem]) rfl F1.out
      | exact bodyPost_end (v := .tuple #[]) (by simp [results, Tryz.results124, go_sem]) rfl F2.out)
end Go.Proofs.YtagppgncanimaaaGreatDoor
namespace Go.Proofs.YtagppgncanimaaaGreatDoor
open Go.RowKit

/-- What a group stands for. -/
def Grp.abs (g : Grp) : List Rx × List Rx := (g.ahead.map Prod.fst, g.parts.map Prod.fst)
/-- The parser, told by what its groups stand for. -/
def PS (B : Nat) (w : World) (pb : Nat) (vw : Value) (a b : Nat) (G : List (List Rx × List Rx)) : Prop := ∃ K vg gs, PsAt B w pb K vw a b vg gs ∧ gs.map Grp.abs = G
theorem PS.below {B : Nat} {w w' : World} {pb : Nat} {vw : Value} {a b : Nat} {G : List (List Rx × List Rx)} (h : PS B w pb vw a b G) (hb : Below w.heap.size w w') : PS B w' pb vw a b G := by
  obtain ⟨K, vg, gs, h1, h2⟩ := h
  exact ⟨K, vg, gs, h1.below hb, h2⟩
/-- What a step of the parser leaves. -/
def StPost (B : Nat) (w : World) (pb : Nat) (vw : Value) (a b : Nat) (G : List (List Rx × List Rx)) (en : Ending) (w' : World) : Prop := en = .returned (.tuple #[]) ∧ PS B w' pb vw a b G ∧ Below B w w'
theorem abs_last {gs : List Grp} {Gi : List (List Rx × List Rx)} {A P : List Rx} (h : gs.map Grp.abs = Gi ++ [(A, P)]) : ∃ gi g, gs = gi ++ [g] ∧ gi.map Grp.abs = Gi ∧ g.ahead.map Prod.fst = A ∧ g.parts.map Prod.fst = P := by
  obtain ⟨gi, gl, rfl, h1, h2⟩ := List.map_eq_append_iff.1 h
  obtain ⟨g, tl, rfl, h3, h4⟩ := List.map_eq_cons_iff.1 h2
  rw [List.map_eq_nil_iff] at h4
  subst h4
  simp [Grp.abs] at h3
  exact ⟨gi, g, rfl, h1, h3.1, h3.2⟩

set_option maxRecDepth 20000 in
set_option maxHeartbeats 2000000 in
theorem repeat_any {B : Nat} {w : World} {pb : Nat} {vw : Value} {a b : Nat} {Gi : List (List Rx × List Rx)} {A Pi : List Rx} {r : Rx} {op : Int} (h : PS B w pb vw a b (Gi ++ [(A, Pi ++ [r])])) (hn : Gi.length ≤ 100000) (hp : Pi.length ≤ 1000000) :
    Calls Tryz.prog 122 #[.pointer (some ⟨pb, 0, none⟩), .int .i64 op] w fun en w' => StPost B w pb vw a b (Gi ++ [(A, Pi ++ [.mk op [] [r]])]) en w' := by
  obtain ⟨K, vg, gs, h, habs⟩ := h
  obtain ⟨gi, g, rfl, hgi, hga, hgp⟩ := abs_last habs
  obtain ⟨pi, tl, hpp, hpi, h2⟩ := List.map_eq_append_iff.1 hgp
  obtain ⟨⟨r', u⟩, tl2, rfl, h3, h4⟩ := List.map_eq_cons_iff.1 h2
  rw [List.map_eq_nil_iff] at h4
  subst h4
  simp only at h3
  subst h3
  obtain ⟨gb, cap, rfl, hgB, hgl, hgpb, -, -, k1, -⟩ := h.last
  have hgm : g ∈ gi ++ [g] := by simp
  have hrow := (h.rowP g hgm)
  obtain ⟨uo, ucap, hu⟩ := (hrow.kids (r', u) (by rw [hpp]; simp)).form
  dsimp only at hu
  subst hu
  obtain ⟨un, hun⟩ : ∃ un, un = r'.kids.length := ⟨_, rfl⟩
  rw [← hun] at hpp
  obtain ⟨m, hm⟩ : ∃ m, m = pi.length := ⟨_, rfl⟩
  have hpl : g.parts.length = m + 1 := by rw [hpp, hm]; simp
  have hmb : m ≤ 1000000 := by rw [hm, ← List.length_map (f := Prod.fst), hpi]; exact hp
  obtain ⟨gp, vc, hvp, hgpB, hgpl, hcell⟩ := ownX_form hrow.own (by omega)
  rw [hpl] at hvp
  have hown := hrow.own
  rw [hpl, hvp] at hown
  obtain ⟨a0, a1, a2⟩ := flatP_at g.parts (i := m) (p := (r', .slice uo un ucap)) (by rw [hpp, hm]; simp)
  have c0 := hcell _ _ a0
  have c1 := hcell _ _ a1
  have c2 := hcell _ _ a2
  dsimp only at c0 c1 c2
  have f0 := hown.frozenAt (m * 3)
  have f1 := hown.frozenAt (m * 3 + 1)
  have f2 := hown.frozenAt (m * 3 + 2)
  rw [hvp] at k1
  obtain ⟨N, hN⟩ : ∃ N, N = m + 1 := ⟨_, rfl⟩
  rw [← hN] at k1
  obtain ⟨G, hG⟩ : ∃ G, G = gi.length := ⟨_, rfl⟩
  rw [← hG] at k1
  have hGl : gi.length = Gi.length := by rw [← hgi]; simp
  have HL := hid (last_any (n := G) (N := gi.length + 1) h.cells.1.2.2.1 (by omega) (by omega))
  have H := hid h
  have HNI : (m : Int) < (N : Int) := by omega
  have HN0 : (0 : Int) < (N : Int) := by omega
  have HM0 : (0 : Int) ≤ (m : Int) := by omega
  have HNw : IntKind.i64.wrap ((N : Int) - 1) = (m : Int) := by
    have : (N : Int) - 1 = (m : Int) := by omega
    rw [this]; unfold IntKind.wrap; simp [IntKind.bits, IntKind.signed]; omega
  have HC := hid (fun (W : World) (hb : Below w.heap.size w W) => (by
    exact ⟨(hb.cell (by exact hgpl)).trans c0, (hb.cell (by exact hgpl)).trans c1, (hb.cell (by exact hgpl)).trans c2, (hb.frozen (by exact hgpl)).trans f0, (hb.frozen (by exact hgpl)).trans f1, (hb.frozen (by exact hgpl)).trans f2⟩ : W.cell? ⟨gp, m * 3, none⟩ = some (.int .i64 r'.op) ∧ W.cell? ⟨gp, m * 3 + 1, none⟩ = some (.string (tx r'.name)) ∧ W.cell? ⟨gp, m * 3 + 2, none⟩ = some (.slice uo un ucap) ∧ W.frozen? ⟨gp, m * 3, none⟩ = false ∧ W.frozen? ⟨gp, m * 3 + 1, none⟩ = false ∧ W.frozen? ⟨gp, m * 3 + 2, none⟩ = false))
  have HK1 := hid (fun (W : World) (hb : Below w.heap.size w W) => (hb.cell (p := ⟨gb, G * 2 + 1, none⟩) (by exact hgl)).trans k1)
  have HNN := hid hN
  have HMM := hid hm
  have HPP := hid hpp
  have HVP := hid hvp
  have HUN := hid hun
  have HGG := hid hG
  have HGI := hid hgi
  have HGA := hid hga
  have HPI := hid hpi
  clear h habs hgp h2 hrow hcell hown a0 a1 a2 c0 c1 c2 f0 f1 f2 k1 hN hm hpp hvp hun hpl hG hgi hga hpi
  go_enter Tryz.func122, Tryz.ntmps122
  go_wp2_with fail
  refine HL.out.mono ?_
  rintro en w1 ⟨rfl, hb1⟩
  have z1 := HK1.out _ hb1
  have B1 := hid hb1
  clear hb1
  go_wp2_with fail
  rw [show decide (0 < N) = true from decide_eq_true (by have := HNN.out; omega)]
  refine must_true.mono ?_
  rintro en w2 ⟨rfl, rfl⟩
  obtain ⟨c0, c1, c2, -, -, -⟩ := HC.out _ B1.out
  have BA := hid (fun (o : Obj) => (B1.out.alloc B1.out.size o : Below w.heap.size w (w1.alloc o)))
  have d0 := fun o => (HC.out _ (BA.out o)).1
  have d1 := fun o => (HC.out _ (BA.out o)).2.1
  have d2 := fun o => (HC.out _ (BA.out o)).2.2.1
  have e0 := fun o => (HC.out _ (BA.out o)).2.2.2.1
  have e1 := fun o => (HC.out _ (BA.out o)).2.2.2.2.1
  have e2 := fun o => (HC.out _ (BA.out o)).2.2.2.2.2
  go_wp2
  refine bodyPost_end (v := .tuple #[]) (by simp [results, Tryz.results122, go_sem]) rfl ?_
  generalize hob : Obj.cells #[.int .i64 r'.op, .string (tx r'.name), .slice uo un ucap] 25 = ob
  have h1 : PsAt B (w1.alloc ob) pb K vw a b (.slice (some ⟨gb, 0, none⟩) (gi.length + 1) cap) (gi ++ [g]) := H.out.below (BA.out ob)
  obtain ⟨W, hW⟩ : ∃ W, W = (((w1.alloc ob).setCell ⟨gp, m * 3, none⟩ (.int .i64 op)).setCell ⟨gp, m * 3 + 1, none⟩ (.string ⟨#[]⟩)).setCell ⟨gp, m * 3 + 2, none⟩ (.slice (some ⟨w1.heap.size, 0, none⟩) 1 1) := ⟨_, rfl⟩
  rw [← hW]
  have hgm : g ∈ gi ++ [g] := by simp
  have hbl : w1.heap.size < (w1.alloc ob).heap.size := by simp
  have hgpw := H.out.rowP g hgm |>.own.lt gp (by rw [HVP.out]; rfl)
  have hs1 := B1.out.size
  have hnew : (w1.alloc ob).heap[w1.heap.size]? = some (.cells #[.int .i64 r'.op, .string (tx r'.name), .slice uo un ucap] 25 (0, 0)) := by rw [← hob]; exact new_0 _ _
  have hoth : ∀ k, k ≠ gp → W.heap[k]? = (w1.alloc ob).heap[k]? := fun k hk => by
    rw [hW, Below.heap_setCell _ _ _ _ (by exact hk), Below.heap_setCell _ _ _ _ (by exact hk), Below.heap_setCell _ _ _ _ (by exact hk)]
  have hsz : W.heap.size = (w1.alloc ob).heap.size := by rw [hW]; simp
  have hpl : g.parts.length = m + 1 := by rw [HPP.out, HMM.out]; simp
  have hP : W.ownsRow B 25 3 (.slice (some ⟨gp, 0, none⟩) (m + 1) vc) (m + 1) (flatP (pi ++ [(.mk op [] [r'], .slice (some ⟨w1.heap.size, 0, none⟩) 1 1)])) := by
    have h2 := (h1.rowP g hgm).own
    rw [hpl, HVP.out, HPP.out, flatP_app] at h2
    have h3 := (((h2.stored (m * 3) (.int .i64 op)).1.stored (m * 3 + 1) (.string ⟨#[]⟩)).1.stored (m * 3 + 2) (.slice (some ⟨w1.heap.size, 0, none⟩) 1 1)).1
    rw [← hW] at h3
    rw [flatP_app]
    have e := set_three (xs := flatP pi) (m := m) (by rw [flatP_len, HMM.out]) (.int .i64 r'.op) (.string (tx r'.name)) (.slice uo un ucap) (.int .i64 op) (.string ⟨#[]⟩) (.slice (some ⟨w1.heap.size, 0, none⟩) 1 1)
    have e' : (((flatP pi ++ flatP [(r', .slice uo un ucap)]).set (m * 3) (.int .i64 op)).set (m * 3 + 1) (.string ⟨#[]⟩)).set (m * 3 + 2) (.slice (some ⟨w1.heap.size, 0, none⟩) 1 1) = flatP pi ++ flatP [(.mk op [] [r'], .slice (some ⟨w1.heap.size, 0, none⟩) 1 1)] := e
    rw [e'] at h3
    exact h3
  have hGr : W.ownsRow B 147 2 (.slice (some ⟨gb, 0, none⟩) (gi.length + 1) cap) (gi.length + 1) ((flatG (gi ++ [g])).set (gi.length * 2 + 1) g.vp) := by
    rw [flatG_setP gi g g.vp g.ahead g.parts]
    have h2 : (w1.alloc ob).ownsRow B 147 2 (.slice (some ⟨gb, 0, none⟩) (gi.length + 1) cap) (gi.length + 1) (flatG (gi ++ [g])) := by have := h1.own; simpa using this
    refine own_same h2 fun k hk => hoth k ?_
    obtain ⟨cs, hc⟩ := own_block h1.own hk
    obtain ⟨cs', hc'⟩ := (h1.rowP g hgm).block (g := gp) (by rw [HVP.out]; rfl)
    exact ne_typeX hc hc' (by decide)
  have hKW : KeepK K (w1.alloc ob) W := ⟨by rw [hsz]; exact Nat.le_refl _, fun k hk _ => hoth k fun e => h1.free g hgm k (blocks_mem.2 (Or.inr (by rw [HVP.out, e]; rfl))) hk⟩
  have hnew' : W.heap[w1.heap.size]? = some (.cells #[.int .i64 r'.op, .string (tx r'.name), .slice uo un ucap] 25 (0, 0)) := (hoth _ (by omega)).trans hnew
  have hkid : RxK K W (.slice uo un ucap) r'.kids := ((h1.rowP g hgm).kids (r', .slice uo un ucap) (by rw [HPP.out]; simp)).on hKW
  have h0 : PsAt B w1 pb K vw a b (.slice (some ⟨gb, 0, none⟩) (gi.length + 1) cap) (gi ++ [g]) := H.out.below B1.out
  have hfin := h0.parted (w' := W) (K' := fun k => K k ∨ k = w1.heap.size) (v' := g.vp) (ps := pi ++ [(.mk op [] [r'], .slice (some ⟨w1.heap.size, 0, none⟩) 1 1)]) (fun k hl _ hv => (hoth k (fun e => hv (by rw [HVP.out, e]; rfl))).trans (Below.heap_alloc _ _ _ hl)) (by rw [hsz]; simp) (fun k hk => Or.inl hk) ?_ hGr ?_ ?_ (fun k hk => Or.inl hk)
  · refine ⟨rfl, ⟨_, _, _, hfin, ?_⟩, ?_⟩
    · simp [Grp.abs, HGI.out, HGA.out, HPI.out]
    · have hBw : B ≤ w.heap.size := by have := H.out.pbl; have := H.out.hB; omega
      have h2 : Below B w (w1.alloc ob) := (BA.out ob).mono hBw
      rw [hW]
      exact ((h2.setCell (by exact hgpw.1) _).setCell (by exact hgpw.1) _).setCell (by exact hgpw.1) _
  · rintro k (hk | rfl)
    · exact Or.inl hk
    · exact Or.inr ⟨Nat.le_refl _, _, hnew'⟩
  · rw [HVP.out, show (pi ++ [(Rx.mk op [] [r'], Value.slice (some ⟨w1.heap.size, 0, none⟩) 1 1)]).length = m + 1 by rw [HMM.out]; simp]
    exact hP
  · intro p hp
    rcases List.mem_append.1 hp with hp | hp
    · exact (((h1.rowP g hgm).kids p (by rw [HPP.out]; simp [hp])).on hKW).mono fun k hk => Or.inl hk
    · rw [List.mem_singleton.1 hp]
      show RxK _ W (.slice (some ⟨w1.heap.size, 0, none⟩) [r'].length 1) [r']
      refine .some w1.heap.size 0 1 [r'] [.slice uo un ucap] (Or.inr rfl) (by rw [hsz]; exact hbl) rfl (fun i k v hk hv => ?_) (fun i k v hk hv => ?_)
      · match i, hk, hv with
        | 0, hk, hv =>
          simp at hk hv
          subst hk hv
          exact ⟨by rw [cell_at hnew']; rfl, by rw [cell_at hnew']; rfl, by rw [cell_at hnew']; rfl⟩
      · match i, hk, hv with
        | 0, hk, hv =>
          simp at hk hv
          subst hk hv
          exact hkid.mono fun k hk => Or.inl hk
end Go.Proofs.YtagppgncanimaaaGreatDoor
namespace Go.Proofs.YtagppgncanimaaaGreatDoor
open Go.RowKit

/-- A group that was opened just now. -/
def Grp.new : Grp := ⟨[], [], .slice none 0 0, .slice none 0 0⟩
/-- The parser's own cells were changed, or its row of groups. -/
theorem PsAt.chg {B : Nat} {w w' : World} {pb : Nat} {K : Nat → Prop} {vw : Value} {a b a' b' : Nat} {vg vg' : Value} {gs gs' : List Grp} (h : PsAt B w pb K vw a b vg gs)
    (hb : ∀ k, k < w.heap.size → k ≠ pb → vg.ownBlock ≠ some k → w'.heap[k]? = w.heap[k]?) (hs : w.heap.size ≤ w'.heap.size) (blk : w'.heap[pb]? = some (.cells #[vw, .int .i64 a', vg', .int .i64 b'] 143 (0, 0)))
    (own : w'.ownsRow B 147 2 vg' gs'.length (flatG gs')) (hm : ∀ g ∈ gs', g ∈ gs ∨ g = Grp.new) (nd : (gs'.flatMap Grp.blocks).Nodup) : PsAt B w' pb K vw a' b' vg' gs' := by
  have keep : ∀ k : Nat, (∃ cs, w.heap[k]? = some (.cells cs 25 (0, 0))) → w'.heap[k]? = w.heap[k]? := fun k ⟨cs, hc⟩ => by
    refine hb k (Array.getElem?_eq_some_iff.1 hc).1 (ne_typeX hc h.blk (by decide)) fun e => ?_
    obtain ⟨cs', hc'⟩ := own_block h.own e
    exact ne_typeX hc hc' (by decide) rfl
  have keepK : KeepK K w w' := ⟨hs, fun k hk _ => keep k (h.kt k hk)⟩
  refine ⟨h.hB, blk, own, fun k hk => ?_, fun g hg => ?_, fun g hg => ?_, nd, fun g hg k hk => ?_, h.kB⟩
  · obtain ⟨cs, hc⟩ := h.kt k hk
    exact ⟨cs, (keep k ⟨cs, hc⟩).trans hc⟩
  · rcases hm g hg with hg | rfl
    · exact (h.rowA g hg).on keepK fun k hk => keep k ((h.rowA g hg).block hk)
    · exact RowX.nil _ _ _
  · rcases hm g hg with hg | rfl
    · exact (h.rowP g hg).on keepK fun k hk => keep k ((h.rowP g hg).block hk)
    · exact RowX.nil _ _ _
  · rcases hm g hg with hg | rfl
    · exact h.free g hg k hk
    · cases hk
theorem Tryz.infoGrpX : (Tryz.prog.info? 147).map (fun i => (i.zero, i.size, i.bytes)) = some (some (.agg #[.slice none 0 0, .slice none 0 0]), 2, 48) := by kernel_rfl

set_option maxRecDepth 20000 in
set_option maxHeartbeats 2000000 in
theorem begin_any {B : Nat} {w : World} {pb : Nat} {vw : Value} {a b : Nat} {G : List (List Rx × List Rx)} (h : PS B w pb vw a b G) (hn : G.length ≤ 100000) (h50 : G.length ≠ 51) :
    Calls Tryz.prog 119 #[.pointer (some ⟨pb, 0, none⟩)] w fun en w' => StPost B w pb vw a b (G ++ [([], [])]) en w' := by
  obtain ⟨i0, hi, hz0, hz1, hz2⟩ := info_parts Tryz.infoGrpX
  have HI := hid hi
  have HZ0 := hid hz0
  have HZ1 := hid hz1
  have HZ2 := hid hz2
  clear hi hz0 hz1 hz2
  obtain ⟨K, vg, gs, h, habs⟩ := h
  have hgl : gs.length = G.length := by rw [← habs]; simp
  obtain ⟨ao, cap, rfl⟩ := own_form h.own
  obtain ⟨⟨p0, p1, p2, p3⟩, q1, q2, q3⟩ := h.cells
  obtain ⟨n, hnn⟩ : ∃ n, n = gs.length := ⟨_, rfl⟩
  rw [← hnn] at p2
  have HO := hid (open_any p2 (by omega))
  have H := hid h
  have HN := hid hnn
  have HAB := hid habs
  have hI : ((n : Int) - 1 == 50) = false := by rw [beq_eq_false_iff_ne]; omega
  have hnb : n ≤ 100000 := by omega
  have hpbl := h.pbl
  clear h habs hnn
  go_enter Tryz.func119, Tryz.ntmps119
  go_wp2_with fail
  refine HO.out.mono ?_
  rintro en w1 ⟨rfl, rfl⟩
  have HOW := hid (fun (ob : Obj) => (by
    have h2 := H.out.own.alloc ob
    rw [← HN.out] at h2; exact h2 : (w.alloc ob).ownsRow B 147 2 (.slice ao n cap) n (flatG gs)))
  have HBw := hid (show B ≤ w.heap.size by have := H.out.hB; omega)
  go_wp2_with (first | (at_builtin; refine wpList_append_own_at _ rfl _ _ 141 rfl B 147 i0 (.agg #[.slice none 0 0, .slice none 0 0]) 2 48 Tryz.underlying141 HI.out HZ0.out HZ1.out HZ2.out rfl (by decide) (.slice ao n cap) n (flatG gs) rfl (HOW.out _) ⟨w.heap.size, 0, none⟩ 1 1 [.slice none 0 0, .slice none 0 0] rfl rfl (new_cells _ #[.slice none 0 0, .slice none 0 0] _ _ rfl) ?c2 ?c3 ?c4 ?c5 ?_))
  case c2 => simp [Value.oneCell']
  case c3 => unfold maxLen; omega
  case c4 => omega
  case c5 => have := HBw.out; simp only [World.size_alloc]; omega
  intro v3 w3 hown3 hgrow3 _ hat3
  obtain ⟨g3, cap3, hv3, -, -, -⟩ := ownX_form hown3 (by omega)
  subst hv3
  have hpb : w3.heap[pb]? = some (.cells #[vw, .int .i64 a, .slice ao n cap, .int .i64 b] 143 (0, 0)) := by
    rw [hgrow3.block pb (by simp only [World.size_alloc]; omega) (fun e => by
      have e2 : (Value.slice ao gs.length cap).ownBlock = some pb := by rw [← HN.out]; exact e.symm
      obtain ⟨cs, hc⟩ := own_block H.out.own e2
      exact ne_typeX hc H.out.blk (by decide) rfl), Below.heap_alloc _ _ _ hpbl, H.out.blk, HN.out]
  have x2 : w3.cell? ⟨pb, 2, none⟩ = some (.slice ao n cap) := by rw [cell_at hpb]; rfl
  have y2 : w3.frozen? ⟨pb, 2, none⟩ = false := free_of hpb
  have HFIN := hid (show StPost B w pb vw a b (G ++ [([], [])]) (.returned (.tuple #[])) (w3.setCell ⟨pb, 2, none⟩ (.slice (some ⟨g3, 0, none⟩) (n + 1) cap3)) from by
    have hs3 : w.heap.size + 1 ≤ w3.heap.size := by have := hgrow3.size; simpa using this
    have hsl : (Value.slice ao gs.length cap).ownBlock = (Value.slice ao n cap).ownBlock := by rw [HN.out]
    have hne3 : g3 ≠ pb := by
      rcases hat3 with e | e
      · intro e2
        rw [e2] at e
        obtain ⟨cs, hc⟩ := own_block H.out.own (hsl.trans e.symm)
        exact ne_typeX hc H.out.blk (by decide) rfl
      · simp [Value.ownBlock] at e; omega
    have hBl : ∀ k, (Value.slice ao n cap).ownBlock = some k → B ≤ k := fun k hk => (H.out.own.lt k (hsl.trans hk)).1
    refine ⟨rfl, ⟨K, .slice (some ⟨g3, 0, none⟩) (n + 1) cap3, gs ++ [Grp.new], H.out.chg (fun k hl hk hv => ?_) (by simp; omega) ?_ ?_ (fun g hg => ?_) ?_, ?_⟩, ?_⟩
    · rw [Below.heap_setCell _ _ _ _ (by exact hk), hgrow3.block k (by simp only [World.size_alloc]; omega) (fun e => hv (hsl.trans e.symm)), Below.heap_alloc _ _ _ hl]
    · rw [heap_setCell_same w3 pb 2 _ _ _ hpb]; rfl
    · rw [flatG_app, List.length_append, ← HN.out]
      exact own_farX hown3 (by simp [Value.ownBlock]; exact hne3)
    · rcases List.mem_append.1 hg with hg | hg
      · exact Or.inl hg
      · exact Or.inr (List.mem_singleton.1 hg)
    · have := H.out.nd
      rw [List.flatMap_append]
      simpa [Grp.blocks, Grp.new, Value.ownBlock] using this
    · simp [HAB.out, Grp.abs, Grp.new]
    · exact (((Below.refl B w).alloc HBw.out _).grown hgrow3 (by have := HBw.out; simp only [World.size_alloc]; omega) hBl).setCell (by exact H.out.hB) _)
  clear hown3 hgrow3 hat3 hpb
  go_wp2
  exact bodyPost_end (v := .tuple #[]) (by simp [results, Tryz.results119, go_sem]) rfl HFIN.out
end Go.Proofs.YtagppgncanimaaaGreatDoor
