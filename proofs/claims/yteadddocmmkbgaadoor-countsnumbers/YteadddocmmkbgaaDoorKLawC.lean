/-
  Counts: the laws' walks: Numbers.
-/
import Derived.Test.YteadddocmmkbgaaDoorKLawB
import Derived.Test.YteadddocmmkbgaaDoorKListB
import Derived.Test.YteadddocmmkbgaaDoorKRefC
namespace Go.Proofs.YteadddocmmkbgaaDoor.Co
open Go.RowKit Go.Shelf

/-- append, under a name that the walk leaves. -/
def appI (ts : Array TypeId) (ty : TypeId) (args : Array Value) : Sem Value := Builtin.append_ ts ty args
theorem appI_fold {ts : Array TypeId} {ty : TypeId} {args : Array Value} : Builtin.append_ ts ty args = appI ts ty args := rfl
/-- At most 100. -/
def m100 (p : Nat) : Nat := min p 100
theorem m100_le (p : Nat) : m100 p ≤ 100 := by unfold m100; omega
theorem run_min_100 {P : Program} {w : World} (ts : Array TypeId) (t : TypeId) (k k' : IntKind) (p : Nat) : (Builtin.min_ ts t #[.int k (p : Int), .int k' 100]).run P w = .ok (.int k ((m100 p : Nat) : Int)) w := run_min_nat (P := P) (w := w) ts t k k' p 100
/-- The sums so far. -/
def pnum (l r : List Nat) (i k : Nat) : List Nat := ((l.take i).flatMap fun x => r.map fun y => m100 x + m100 y) ++ ((r.take k).map fun y => m100 (l.getD i 0) + m100 y)
theorem pnum_zero (l r : List Nat) (i : Nat) : pnum l r i 0 = (l.take i).flatMap fun x => r.map fun y => m100 x + m100 y := by simp [pnum]
theorem pnum_row {l r : List Nat} {i x : Nat} (hx : l[i]? = some x) : pnum l r i r.length = pnum l r (i + 1) 0 := by
  rw [pnum_zero, pnum, List.take_length, List.take_add_one, hx, List.getD_eq_getElem?_getD, hx, List.flatMap_append]
  simp
theorem pnum_step {l r : List Nat} {i k x y : Nat} (hx : l[i]? = some x) (hy : r[k]? = some y) : pnum l r i (k + 1) = pnum l r i k ++ [m100 x + m100 y] := by
  unfold pnum
  rw [List.take_add_one, hy, List.map_append, List.append_assoc, List.getD_eq_getElem?_getD, hx]
  rfl
theorem pnum_len {l r : List Nat} {i k n q : Nat} (hl : l.length = n) (hr : r.length = q) (hn : n ≤ 50) (hq : q ≤ 50) : (pnum l r i k).length ≤ 2600 := by
  unfold pnum
  have h1 : ((l.take i).flatMap fun x => r.map fun y => m100 x + m100 y).length ≤ (l.take i).length * q := by
    have key : ∀ s : List Nat, (s.flatMap fun x => r.map fun y => m100 x + m100 y).length = s.length * q := by
      intro s
      induction s with
      | nil => simp
      | cons z s ih => rw [List.flatMap_cons, List.length_append, ih, List.length_map, hr, List.length_cons, Nat.succ_mul]; omega
    exact Nat.le_of_eq (key _)
  have h2 : (l.take i).length * q ≤ 50 * 50 := Nat.mul_le_mul (by rw [List.length_take]; omega) hq
  rw [List.length_append, List.length_map, List.length_take]
  omega
theorem get_nat {l : List Int} {ls : List Nat} {j : Nat} {x : Int} (h : l = ls.map fun (n : Nat) => (n : Int)) (hx : l[j]? = some x) : ∃ y : Nat, x = (y : Int) ∧ ls[j]? = some y := by
  subst h
  rw [List.getElem?_map] at hx
  cases hy : ls[j]? with
  | none => rw [hy] at hx; cases hx
  | some y => rw [hy] at hx; cases hx; exact ⟨y, rfl, rfl⟩
theorem of_zero {t : Int} {l : List Int} {p1 : Nat} (h : ((p1 : Nat), (0 : Int)) = ofP t l) : ∃ m : Nat, t = (m : Int) ∧ m ≤ 62 ∧ ∃ ls : List Nat, l = ls.map (fun (n : Nat) => (n : Int)) ∧ ls ≠ [] ∧ p1 = setN (ls.map fun x => min x (m + 1)) := by
  unfold ofP at h
  split at h
  · cases h
  · rename_i h0
    split at h
    · cases h
    · rename_i h1
      split at h
      · rename_i h2
        refine ⟨t.toNat, by omega, by omega, l.map Int.toNat, ?_, by simpa using h1, ?_⟩
        · rw [List.map_map]
          have : ∀ x ∈ l, ((fun (n : Nat) => (n : Int)) ∘ Int.toNat) x = x := by
            intro x hx
            have := List.all_eq_true.1 h2 x hx
            simp at this
            simp
            omega
          rw [List.map_congr_left this, List.map_id']
        · have := congrArg Prod.fst h
          rw [List.map_map]
          exact this
      · cases h
attribute [local go_sem ↓] appI_fold run_min_100
set_option maxRecDepth 100000 in
set_option maxHeartbeats 1000000 in
theorem knum_any {t : Int} {ao bo : Option Addr} {l r : List Int} {n q cap cbp : Nat} {w : World} (hl : l.length = n) (hN : n ≤ 9223372036854775807) (hin : IsIn w ao l) (h64 : ∀ x ∈ l, x < 9223372036854775808)
    (hl' : r.length = q) (hN' : q ≤ 9223372036854775807) (hin' : IsIn w bo r) (h64' : ∀ x ∈ r, x < 9223372036854775808) (hP : PowTab w) :
    Calls Tryd.prog 8 #[.int .i64 t, .slice ao n cap, .slice bo q cbp] w fun e w' => e = .returned (.bool true) ∧ Below w.heap.size w w' := by
  have HP := hid hP
  have HA := hid (Of_any (t := t) (cap := cap) hl hN hin h64)
  have HB := hid (fun w' (hb : Below w.heap.size w w') => Of_any (t := t) (cap := cbp) hl' hN' (hin'.below hb) h64')
  have HL := hid hl
  have HL' := hid hl'
  have HIN := hid hin
  have HIN' := hid hin'
  obtain ⟨⟨p1, p2⟩, hp⟩ : ∃ p, p = ofP t l := ⟨_, rfl⟩
  obtain ⟨⟨q1, q2⟩, hq⟩ : ∃ q, q = ofP t r := ⟨_, rfl⟩
  rw [← hp] at HA
  rw [← hq] at HB
  have HPE := hid hp
  have HQE := hid hq
  clear hp hq hP hin hin' hl hl'
  simp only at HA HB
  go_enter Tryd.func8, Tryd.ntmps8
  go_wp2_with fail
  refine HA.out.mono ?_
  rintro e w1 ⟨rfl, hb1⟩
  have B1 := hid hb1
  clear hb1
  go_wp2_with fail
  refine (HB.out _ B1.out).mono ?_
  rintro e w2 ⟨rfl, hb2⟩
  have B2 := hid (below_tr B1.out hb2)
  have HK := hid (kawake (HP.out.below B2.out))
  clear hb2
  go_wp2_with fail
  refine HK.out.mono ?_
  rintro e w3 ⟨rfl, hb3⟩
  have B3 := hid (below_tr B2.out hb3)
  clear hb3
  by_cases h1 : p2 = 0
  · subst h1
    by_cases h2 : q2 = 0
    · subst h2
      by_cases h3 : 50 < n
      · go_wp2
        go_ret
        exact ⟨rfl, B3.out⟩
      · by_cases h4 : 50 < q
        · go_wp2
          go_ret
          exact ⟨rfl, B3.out⟩
        · obtain ⟨m, rfl, hm, ls, hls, hls0, hp1⟩ := of_zero HPE.out
          obtain ⟨m', hmm, _, rs, hrs, hrs0, hq1⟩ := of_zero HQE.out
          obtain rfl : m = m' := by omega
          obtain ⟨i0, hi, hz0, hz1, hz2⟩ := info_parts Tryd.infoInt
          have hlen : ls.length = n := by have := HL.out; rw [hls, List.length_map] at this; exact this
          have hrlen : rs.length = q := by have := HL'.out; rw [hrs, List.length_map] at this; exact this
          have HLS := hid hls
          have HRS := hid hrs
          have HP1 := hid hp1
          have HQ1 := hid hq1
          have HLN := hid hlen
          have HRN := hid hrlen
          clear hls hrs hp1 hq1 hlen hrlen hmm HPE HQE HA HB HK
          go_wp2_with fail
          go_loopw [12, 11] (fun i v wr => ∃ j : Nat, j ≤ n ∧ i = .int .i64 (j : Int) ∧ Hid (wr.ownsRow w.heap.size 3 1 v (pnum ls rs j 0).length (((pnum ls rs j 0).map (fun (n : Nat) => (n : Int))).map (Value.int .i64)) ∧ Below w.heap.size w wr)) (fun i _ _ => n - (intOf i).toNat)
          case atStart => exact ⟨0, Nat.zero_le _, rfl, World.ownsRow_nil _ _ _ _, B3.out⟩
          case round =>
            obtain ⟨i, hi', rfl, HJ⟩ := hrel
            rename World => wo
            by_cases hlt : i < n
            · have hiI : (i : Int) < (n : Int) := by omega
              have hi0 : (0 : Int) ≤ (i : Int) := by omega
              go_wp2_with fail
              go_loopw [13, 11] (fun k v wr => ∃ j : Nat, j ≤ q ∧ k = .int .i64 (j : Int) ∧ Hid (wr.ownsRow w.heap.size 3 1 v (pnum ls rs i j).length (((pnum ls rs i j).map (fun (n : Nat) => (n : Int))).map (Value.int .i64)) ∧ Below w.heap.size w wr)) (fun i _ _ => q - (intOf i).toNat)
              case atStart => exact ⟨0, Nat.zero_le _, rfl, HJ.out⟩
              case round =>
                obtain ⟨k, hk, rfl, HJ2⟩ := hrel
                by_cases hkt : k < q
                · obtain ⟨g, o, x0, rfl, hg, hc, HCX⟩ := (HIN.out.below HJ2.out.2).at HL.out hlt
                  obtain ⟨g', o', y0, rfl, hg', hc', HCY⟩ := (HIN'.out.below HJ2.out.2).at HL'.out hkt
                  obtain ⟨x, rfl, hx⟩ := get_nat HLS.out HCX.out.1
                  obtain ⟨y, rfl, hy⟩ := get_nat HRS.out HCY.out.1
                  have HST := hid (pnum_step hx hy)
                  have hkI : (k : Int) < (q : Int) := by omega
                  have hk0 : (0 : Int) ≤ (k : Int) := by omega
                  have hmx := m100_le x
                  have hmy := m100_le y
                  have hsz := HJ2.out.2.size
                  have hln := pnum_len (i := i) (k := k) HLN.out HRN.out (by omega) (by omega)
                  clear hx hy
                  obtain ⟨v', w4, hrun, hown, hgrow, _⟩ := run_append_own (P := Tryd.prog) (wr.drew.alloc (.cells #[.int .i64 ((m100 x : Int) + (m100 y : Int))] 3)) w.heap.size 22 22 3 i0 (.int .i64 0) 1 8 Tryd.underlying22 hi hz0 hz1 hz2 rfl (by decide) _ _ _ ((show wr.drew.ownsRow _ _ _ _ _ _ from HJ2.out.1).alloc _) ⟨wr.drew.heap.size, 0, none⟩ 1 1 [.int .i64 ((m100 x : Int) + (m100 y : Int))] rfl (cell_one_new _ _ _) (by simp [Value.oneCell']) (by simp [maxLen]; omega) (by omega) (by simp; omega)
                  have hrun' : (appI #[22, 22] 22 #[_, .slice (some ⟨wr.heap.size, 0, none⟩) 1 1]).run Tryd.prog (wr.alloc (.cells #[.int .i64 ((m100 x : Int) + (m100 y : Int))] 3)).drew = _ := hrun
                  have HO := hid hown
                  have HG := hid hgrow
                  clear hrun hown hgrow hln hsz
                  go_wp2_with fail
                  go_region
                  all_goals go_wp2
                  all_goals go_roundw
                  case rel =>
                    refine ⟨k + 1, by omega, by simp, ?_, HJ2.out.2.drew.trans (row_below (W := wr.drew) HJ2.out.1 HG.out (by have := HJ2.out.2.size; exact this))⟩
                    rw [HST.out, List.length_append, List.map_append, List.map_append]
                    exact HO.out
                  case measure => simp [intOf]; omega
                · have hkI : ¬ (k : Int) < (q : Int) := by omega
                  have hke : k = q := by omega
                  have HNX := hid (show pnum ls rs i k = pnum ls rs (i + 1) 0 by
                    rw [hke, ← HRN.out]
                    have hil : i < ls.length := by rw [HLN.out]; exact hlt
                    exact pnum_row (List.getElem?_eq_getElem hil))
                  clear hke
                  go_wp2
                  go_roundw
                  case rel => exact ⟨i + 1, by omega, by simp, by rw [← HNX.out]; exact HJ2.out⟩
                  case measure => simp [intOf]; omega
            · have hiI : ¬ (i : Int) < (n : Int) := by omega
              have hie : i = n := by omega
              have HNX := hid (show pnum ls rs i 0 = ls.flatMap fun x => rs.map fun y => m100 x + m100 y by
                rw [pnum_zero, hie, ← HLN.out, List.take_length])
              obtain ⟨S, hS⟩ : ∃ S, S = pnum ls rs i 0 := ⟨_, rfl⟩
              have hSl := pnum_len (i := i) (k := 0) HLN.out HRN.out (by omega) (by omega)
              rw [← hS] at HJ hSl HNX
              obtain ⟨so, sc, rfl, hsi⟩ := ints_of_row HJ.out.1
              have HSI := hid hsi
              have HSE := hid (sum_of hm ls rs)
              have HX := hid (Sum_two (t := (m : Int)) (a := p1) (b := q1) (x := setN (S.map fun x => min x (m + 1))) (e0 := 0) (by rw [HP1.out]; exact two_64 (setN_lt (map_cut_lt _)) hm) (by rw [HQ1.out]; exact two_64 (setN_lt (map_cut_lt _)) hm) (by
                rw [HP1.out, HQ1.out, sumP2 hm (setN_may hls0) (setN_may hrs0), HNX.out]
                exact congrArg (fun z => (z, (0 : Int))) HSE.out))
              have hS0 : S ≠ [] := by
                rw [HNX.out]
                obtain ⟨a, ls', rfl⟩ := List.exists_cons_of_ne_nil hls0
                obtain ⟨b, rs', rfl⟩ := List.exists_cons_of_ne_nil hrs0
                simp
              have HY := hid (fun w' (hb : Below wo.heap.size wo w') => Of_any (t := (m : Int)) (cap := sc) (n := (S.map (fun (n : Nat) => (n : Int))).length) rfl (by rw [List.length_map]; omega) (HSI.out.below hb) (by
                intro x hx
                obtain ⟨z, hz, rfl⟩ := List.mem_map.1 hx
                rw [HNX.out] at hz
                obtain ⟨a, _, hz⟩ := List.mem_flatMap.1 hz
                obtain ⟨b, _, rfl⟩ := List.mem_map.1 hz
                have := m100_le a
                have := m100_le b
                omega))
              have eY : ofP (m : Int) (S.map (fun (n : Nat) => (n : Int))) = (setN (S.map fun x => min x (m + 1)), 0) := by
                unfold ofP
                rw [if_neg (by omega), if_neg (by simpa using hS0), if_pos (List.all_eq_true.2 (by
                  intro x hx
                  obtain ⟨z, _, rfl⟩ := List.mem_map.1 hx
                  simp))]
                unfold ofL
                rw [List.map_map]
                rfl
              rw [eY] at HY
              obtain ⟨Z, hZ⟩ : ∃ Z, Z = setN (S.map fun x => min x (m + 1)) := ⟨_, rfl⟩
              obtain ⟨u, hu⟩ : ∃ u, u = (S.map (fun (n : Nat) => (n : Int))).length := ⟨_, rfl⟩
              rw [← hZ] at HX HY
              rw [← hu] at HY ⊢
              simp only at HY
              clear hie hS hsi eY hS0 hZ hu HSE HNX HSI
              go_wp2_with fail
              refine (HX.out _).mono ?_
              rintro e w5 ⟨rfl, hb5⟩
              have B5 := hid hb5
              clear hb5
              go_wp2_with fail
              refine (HY.out _ B5.out).mono ?_
              rintro e w6 ⟨rfl, hb6⟩
              have B6 := hid (below_tr B5.out hb6)
              clear hb6
              go_wp2
              go_ret
              exact ⟨by rfl, below_tr HJ.out.2 B6.out⟩
    · have h2' : (q2 == 0) = false := by simpa using h2
      go_wp2
      go_ret
      exact ⟨rfl, B3.out⟩
  · have h1' : (p2 == 0) = false := by simpa using h1
    go_wp2
    go_ret
    exact ⟨rfl, B3.out⟩
end Go.Proofs.YteadddocmmkbgaaDoor.Co
