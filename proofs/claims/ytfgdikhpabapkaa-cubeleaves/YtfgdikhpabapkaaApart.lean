/-
  Apart: do no two of several texts meet?; in: does a header lie in one of several?
-/
import Derived.Test.YtfgdikhpabapkaaLMeets
namespace Go.Proofs.Ytfgdikhpabapkaa
open Go.RowKit

/-- The i-th text of a row, as a text; the row's texts by number. -/
def nth (ls : List (List UInt8)) (i : Nat) : ByteArray := ⟨(ls.getD i []).toArray⟩
theorem nth_bytes (ls : List (List UInt8)) (i : Nat) : by_ (nth ls) i = ls.getD i [] := rfl
theorem nth_at {ls : List (List UInt8)} {i : Nat} (h : i < ls.length) : ls.getD i [] = ls[i] := by
  rw [List.getD_eq_getElem?_getD, List.getElem?_eq_getElem h]; rfl
theorem nth_size (ls : List (List UInt8)) (i : Nat) : (nth ls i).size = (ls.getD i []).length := by
  show (ls.getD i []).toArray.size = _
  simp

/-- Why several are refused; whether no two meet. -/
def allRight (ls : List (List UInt8)) : Bool := ls.all Cu.right
def allWide (ls : List (List UInt8)) : Bool := ls.all fun l => l.length == (ls.getD 0 []).length
def errL (ls : List (List UInt8)) : Int := if allRight ls = true then (if allWide ls = true then 0 else 11) else 10
def apartB (ls : List (List UInt8)) : Bool := decide (∀ i, i < ls.length → ∀ j, j < i → Cu.meetsB (ls.getD i []) (ls.getD j []) = false)

theorem errL_zero {ls : List (List UInt8)} (h : errL ls = 0) : (∀ i, i < ls.length → Cu.right (ls.getD i []) = true) ∧ (∀ i, i < ls.length → (ls.getD i []).length = (ls.getD 0 []).length) := by
  unfold errL at h
  split at h
  · rename_i h1
    split at h
    · rename_i h2
      refine ⟨fun i hi => ?_, fun i hi => ?_⟩
      · rw [nth_at hi]; exact List.all_eq_true.1 h1 _ (List.getElem_mem hi)
      · have := List.all_eq_true.1 h2 _ (List.getElem_mem hi)
        rw [nth_at hi]; simpa using this
    · cases h
  · cases h

/-- The first that is none. -/
theorem first_wrong (p : Nat → Bool) : ∀ n, (∃ i, i < n ∧ p i = false) → ∃ m, m < n ∧ p m = false ∧ ∀ i, i < m → p i = true
  | 0, h => by obtain ⟨i, hi, _⟩ := h; omega
  | n + 1, h => by
    by_cases hp : ∃ i, i < n ∧ p i = false
    · obtain ⟨m, hm, e, hl⟩ := first_wrong p n hp
      exact ⟨m, by omega, e, hl⟩
    · obtain ⟨i, hi, e⟩ := h
      have : i = n := by
        by_cases hin : i < n
        · exact absurd ⟨i, hin, e⟩ hp
        · omega
      subst this
      refine ⟨i, by omega, e, fun j hj => ?_⟩
      rcases bool_two (p j) with f | f
      · exact absurd ⟨j, hj, f⟩ hp
      · exact f

theorem errL_cases (ls : List (List UInt8)) : errL ls = 0 ∨ (errL ls = 11 ∧ (∀ i, i < ls.length → Cu.right (ls.getD i []) = true) ∧ ∃ m, m < ls.length ∧ (ls.getD m []).length ≠ (ls.getD 0 []).length) ∨
    (errL ls = 10 ∧ ∃ m, m < ls.length ∧ Cu.right (ls.getD m []) = false ∧ ∀ i, i < m → Cu.right (ls.getD i []) = true) := by
  rcases bool_two (allRight ls) with h | h
  · refine Or.inr (Or.inr ⟨by simp [errL, h], ?_⟩)
    refine first_wrong (fun i => Cu.right (ls.getD i [])) ls.length ?_
    obtain ⟨l, hl, e⟩ := List.all_eq_false.1 h
    obtain ⟨i, hi, rfl⟩ := List.getElem_of_mem hl
    exact ⟨i, hi, by rw [nth_at hi]; simpa using e⟩
  · have hr : ∀ i, i < ls.length → Cu.right (ls.getD i []) = true := fun i hi => by rw [nth_at hi]; exact List.all_eq_true.1 h _ (List.getElem_mem hi)
    rcases bool_two (allWide ls) with h2 | h2
    · refine Or.inr (Or.inl ⟨by simp [errL, h, h2], hr, ?_⟩)
      obtain ⟨l, hl, e⟩ := List.all_eq_false.1 h2
      obtain ⟨i, hi, rfl⟩ := List.getElem_of_mem hl
      exact ⟨i, hi, by rw [nth_at hi]; simpa using e⟩
    · exact Or.inl (by simp [errL, h, h2])

/-- The cells of a row of texts, by number. -/
theorem row_cells {w : World} {ls : List (List UInt8)} {g o : Nat} (h : ∀ i (h : i < ls.length), w.cell? ⟨g, o + i, none⟩ = some (sv ls[i])) : ∀ i, i < ls.length → w.cell? ⟨g, o + i, none⟩ = some (.string (nth ls i)) := by
  intro i hi
  rw [h i hi, nth, nth_at hi]

theorem read_bad (ls : List (List UInt8)) (v : Value) (w : World) (hr : Row w v ls) (hn : ls.length ≤ 1000000) (he : errL ls ≠ 0) :
    Calls Try.prog 24 #[v] w fun e w' => e = .returned (.tuple #[.slice none 0 0, .int .i64 (errL ls)]) ∧ Below w.heap.size w w' := by
  obtain ⟨ao, cap, rfl, hr⟩ := hr
  have hne : 0 < ls.length := by
    cases ls with
    | nil => exact absurd rfl he
    | cons => simp
  obtain ⟨g, o, rfl, hg, hc⟩ : ∃ g o, ao = some ⟨g, o, none⟩ ∧ g < w.heap.size ∧ ∀ i (h : i < ls.length), w.cell? ⟨g, o + i, none⟩ = some (sv ls[i]) := by
    rcases hr with rfl | hr
    · simp at hne
    · exact hr
  rcases errL_cases ls with e | ⟨e, h1, m, hm, h2⟩ | ⟨e, m, hm, h1, h2⟩
  · exact absurd e he
  · rw [e]
    exact read_width (nth ls) ls.length g o cap w hg (row_cells hc) hne hn h1 m hm (by rw [nth_size, nth_size]; exact h2)
  · rw [e]
    exact read_wrong (nth ls) ls.length g o cap w hg (row_cells hc) hne hn m hm h2 h1

theorem read_ok (ls : List (List UInt8)) (v : Value) (w : World) (hr : Row w v ls) (h0 : 0 < ls.length) (hn : ls.length ≤ 1000000) (he : errL ls = 0) :
    Calls Try.prog 24 #[v] w fun e w' =>
      e = .returned (.tuple #[.slice (some ⟨w.heap.size + 2, 0, none⟩) ls.length ls.length, .int .i64 0]) ∧ (∃ cs, w'.heap[w.heap.size + 2]? = some (.cells cs 54 (0, 0)) ∧ cs.size = ls.length * 4 ∧ lie cs ls.length (by_ (nth ls))) ∧ Below w.heap.size w w' := by
  obtain ⟨ao, cap, rfl, hr⟩ := hr
  obtain ⟨g, o, rfl, hg, hc⟩ : ∃ g o, ao = some ⟨g, o, none⟩ ∧ g < w.heap.size ∧ ∀ i (h : i < ls.length), w.cell? ⟨g, o + i, none⟩ = some (sv ls[i]) := by
    rcases hr with rfl | hr
    · simp at h0
    · exact hr
  obtain ⟨h1, h2⟩ := errL_zero he
  exact read_right (nth ls) ls.length g o cap w hg (row_cells hc) h0 hn h1 (fun i hi => by rw [nth_size, nth_size]; exact h2 i hi)

set_option maxHeartbeats 400000 in
theorem Apart_bad (ls : List (List UInt8)) (v : Value) (w : World) (hr : Row w v ls) (hn : ls.length ≤ 1000000) (he : errL ls ≠ 0) :
    Calls Try.prog 19 #[v] w fun e w' => e = .returned (.tuple #[.bool false, .int .i64 (errL ls)]) ∧ Below w.heap.size w w' := by
  have hne : (errL ls != 0) = true := by rw [bne_iff_ne]; exact he
  have H := hid he
  have HR := hid hr
  clear he hr
  go_enter Try.func19, Try.ntmps19
  go_wp2_with fail
  refine (read_bad ls v w HR.out hn H.out).mono ?_
  rintro e w1 ⟨rfl, hb1⟩
  go_wp2
  go_ret2
  exact ⟨rfl, hb1⟩

/-- Four cells of a row of ternaries, one behind the other. -/
theorem lie_four {w : World} {g n : Nat} {cs : Array Value} {L : Nat → List UInt8} (h : w.heap[g]? = some (.cells cs 54 (0, 0))) (hl : lie cs n L) {k : Nat} (hk : k < n) :
    w.cell? ⟨g, k * 4, none⟩ = some (.int .u64 (Cu.wd (Cu.fixAt (L k)) 0 : Int)) ∧ w.cell? ⟨g, k * 4 + 1, none⟩ = some (.int .u64 (Cu.wd (Cu.fixAt (L k)) 1 : Int)) ∧
      w.cell? ⟨g, k * 4 + 2, none⟩ = some (.int .u64 (Cu.wd (Cu.oneAt (L k)) 0 : Int)) ∧ w.cell? ⟨g, k * 4 + 3, none⟩ = some (.int .u64 (Cu.wd (Cu.oneAt (L k)) 1 : Int)) := by
  have a0 := hl k hk 0 (by omega)
  have a1 := hl k hk 1 (by omega)
  have a2 := hl k hk 2 (by omega)
  have a3 := hl k hk 3 (by omega)
  rw [Nat.add_zero] at a0
  unfold World.cell?
  rw [h]
  exact ⟨a0, a1, a2, a3⟩

set_option maxHeartbeats 2000000 in
theorem Apart_ok (ls : List (List UInt8)) (v : Value) (w : World) (hr : Row w v ls) (h0 : 0 < ls.length) (hn : ls.length ≤ 1000000) (he : errL ls = 0) :
    Calls Try.prog 19 #[v] w fun e w' => e = .returned (.tuple #[.bool (apartB ls), .int .i64 0]) ∧ Below w.heap.size w w' := by
  have H := hid he
  have HR := hid hr
  have HE := hid (errL_zero he)
  have HQ : Hid (∀ i, by_ (nth ls) i = ls.getD i []) := fun i => rfl
  clear he hr
  obtain ⟨n, hnn⟩ : ∃ n, n = ls.length := ⟨_, rfl⟩
  have HN := hid hnn
  go_enter Try.func19, Try.ntmps19
  go_wp2_with fail
  refine (read_ok ls v w HR.out h0 hn H.out).mono ?_
  rw [← hnn]
  rw [← hnn] at h0 hn
  clear hnn
  rintro e w1 ⟨rfl, ⟨cs, hg, hsz, hlie⟩, hb1⟩
  have HG := hid hg
  clear hg
  go_wp2
  go_loopw [20] (fun i wr => ∃ k : Nat, k ≤ n ∧ i = .int .i64 k ∧ Hid (∀ i, i < k → ∀ j, j < i → Cu.meetsB (ls.getD i []) (ls.getD j []) = false) ∧ wr.heap[w.heap.size + 2]? = some (.cells cs 54 (0, 0)) ∧ Below w.heap.size w wr) (fun i _ => n - (intOf i).toNat)
  case atStart => exact ⟨0, Nat.zero_le _, rfl, fun i hi => absurd hi (Nat.not_lt_zero i), HG.out, hb1⟩
  case round =>
    obtain ⟨k, hk, rfl, hpre, hrow, hbl⟩ := hrel
    rename World => wo
    by_cases hlt : k < n
    · have HRW := hid hrow
      obtain ⟨t0, t1, t2, t3⟩ := lie_four hrow hlie hlt
      have hkn : (k : Int) ≤ (n : Int) := by omega
      have hgs := lt_of_block hrow
      clear hrow
      go_wp2
      go_loopw [29] (fun i wq => ∃ j : Nat, j ≤ k ∧ i = .int .i64 j ∧ Hid (∀ i, i < j → Cu.meetsB (ls.getD k []) (ls.getD i []) = false) ∧ wq.heap[wo.heap.size]? = some (.cells (tc (by_ (nth ls) k)) 54 (0, 0)) ∧ Below wo.heap.size wo wq) (fun i _ => k - (intOf i).toNat)
      case atStart => exact ⟨0, Nat.zero_le _, rfl, fun i hi => absurd hi (Nat.not_lt_zero i), new_0 _ _, (Below.refl _ _).alloc (Nat.le_refl _) _⟩
      case round =>
        obtain ⟨j, hj, rfl, hin, hbox, hbq⟩ := hrel
        have HBX := hid hbox
        clear t0 t1 t2 t3
        by_cases hjk : j < k
        · obtain ⟨t0, t1, t2, t3⟩ := four_cell hbox
          have hbs := lt_of_block hbox
          have HRQ := hid (below_block hbq HRW.out hgs)
          obtain ⟨y0, y1, y2, y3⟩ := lie_four HRQ.out hlie (show j < n by omega)
          clear hbox
          have hjk2 : (j : Int) < (k : Int) := by omega
          have HRK := hid (HE.out.1 k (by rw [← HN.out]; exact hlt))
          have HRJ := hid (HE.out.1 j (by rw [← HN.out]; omega))
          have HLL : Hid ((ls.getD k []).length = (ls.getD j []).length) := (HE.out.2 k (by rw [← HN.out]; exact hlt)).trans (HE.out.2 j (by rw [← HN.out]; omega)).symm
          rcases bool_two (Cu.meetsB (ls.getD k []) (ls.getD j [])) with hm | hm
          · have HM := hid hm
            clear hm
            go_wp2_with fail
            have q := meets_any (ls.getD k []) (ls.getD j []) (wr.alloc (.cells (tc (ls.getD j [])) 54)) HRK.out HRJ.out HLL.out
            rw [HM.out] at q
            refine q.mono ?_
            clear q
            rintro e w2 ⟨rfl, hb2⟩
            have HB2 : Hid (Below wr.heap.size wr w2) := ((Below.refl _ _).alloc (Nat.le_refl _) _).trans (hb2.mono (by simp))
            clear t0 t1 t2 t3 y0 y1 y2 y3 hb2
            go_wp2
            go_roundw
            case rel =>
              refine ⟨j + 1, by omega, by go_num, fun i hi => ?_, below_block HB2.out HBX.out (lt_of_block HBX.out), hbq.trans (HB2.out.mono hbq.size)⟩
              by_cases e : i = j
              · rw [e]; exact HM.out
              · exact hin.out i (by omega)
            case measure => simp [intOf]; omega
          · have HM := hid hm
            clear hm
            go_wp2_with fail
            have q := meets_any (ls.getD k []) (ls.getD j []) (wr.alloc (.cells (tc (ls.getD j [])) 54)) HRK.out HRJ.out HLL.out
            rw [HM.out] at q
            refine q.mono ?_
            clear q
            rintro e w2 ⟨rfl, hb2⟩
            have HB2 : Hid (Below wr.heap.size wr w2) := ((Below.refl _ _).alloc (Nat.le_refl _) _).trans (hb2.mono (by simp))
            clear t0 t1 t2 t3 y0 y1 y2 y3 hb2
            go_wp2
            go_ret2
            refine ⟨?_, (hbl.trans (hbq.mono hbl.size)).trans (HB2.out.mono (Nat.le_trans hbl.size hbq.size))⟩
            have : apartB ls = false := decide_eq_false (fun h => by
              have := h k (by rw [← HN.out]; exact hlt) j hjk
              rw [HM.out] at this; cases this)
            rw [this]; rfl
        · have hjk3 : j = k := by omega
          subst hjk3
          clear hbox
          go_wp2
          go_roundw
          case rel =>
            refine ⟨j + 1, by omega, by go_num, fun i hi i2 hi2 => ?_, below_block hbq HRW.out hgs, hbl.trans (hbq.mono hbl.size)⟩
            by_cases e : i = j
            · subst e; exact hin.out i2 hi2
            · exact hpre.out i (by omega) i2 hi2
          case measure => simp [intOf]; omega
    · have hkn : k = n := by omega
      subst hkn
      clear hrow
      go_wp2
      go_ret2
      refine ⟨?_, hbl⟩
      have : apartB ls = true := decide_eq_true (fun i hi j hj => hpre.out i (by rw [HN.out]; exact hi) j hj)
      rw [this]; rfl

theorem Apart_any (ls : List (List UInt8)) (v : Value) (w : World) (hr : Row w v ls) (h0 : 0 < ls.length) (hn : ls.length ≤ 1000000) :
    Calls Try.prog 19 #[v] w fun e w' => e = .returned (.tuple #[.bool (decide (errL ls = 0) && apartB ls), .int .i64 (errL ls)]) ∧ Below w.heap.size w w' := by
  by_cases he : errL ls = 0
  · rw [he]
    exact Apart_ok ls v w hr h0 hn he
  · have e : (decide (errL ls = 0) && apartB ls) = false := by simp [he]
    rw [e]
    exact Apart_bad ls v w hr hn he

/-- Does the header lie in one of several? -/
def inB (ls : List (List UInt8)) (h : ByteArray) : Bool := ls.any fun l => hasB ⟨l.toArray⟩ h

theorem hasB_zero {c h : ByteArray} (hh : hasB c h = true) : errH c h = 0 := by
  simp only [hasB, Bool.and_eq_true, Bool.not_eq_true'] at hh
  unfold errH
  rw [hh.1, if_neg (by simp)]
  exact (insB_zero hh.2).1

set_option maxHeartbeats 1000000 in
theorem in_any (ls : List (List UInt8)) (v : Value) (h : ByteArray) (w : World) (hr : Row w v ls) (hn : ls.length ≤ 1000000) :
    Calls Try.prog 20 #[v, .string h] w fun e w' => e = .returned (.bool (inB ls h)) ∧ Below w.heap.size w w' := by
  obtain ⟨ao, cap, rfl, hr⟩ := hr
  rcases hr with rfl | ⟨g, o, rfl, hg, hc⟩
  · go_enter Try.func20, Try.ntmps20
    go_wp2
    refine wp_loop_rounds 1 ?_
    rw [rounds_succ]
    go_wp2
    go_ret
    exact ⟨rfl, Below.refl _ _⟩
  · have HC := hid (row_cells hc)
    clear hc
    obtain ⟨n, hnn⟩ : ∃ n, n = ls.length := ⟨_, rfl⟩
    have HN := hid hnn
    rw [← hnn] at hn
    rw [← hnn]
    clear hnn
    go_enter Try.func20, Try.ntmps20
    go_wp2
    go_loopw [5] (fun i wr => ∃ k : Nat, k ≤ n ∧ i = .int .i64 k ∧ Hid (∀ i, i < k → hasB (nth ls i) h = false) ∧ Below w.heap.size w wr) (fun i _ => n - (intOf i).toNat)
    case atStart => exact ⟨0, Nat.zero_le _, rfl, fun i hi => absurd hi (Nat.not_lt_zero i), Below.refl _ _⟩
    case round =>
      obtain ⟨k, hk, rfl, hpre, hbl⟩ := hrel
      by_cases hlt : k < n
      · have hck : wr.cell? ⟨g, o + k, none⟩ = some (.string (nth ls k)) := by rw [hbl.cell (by exact hg)]; exact HC.out k (by rw [← HN.out]; exact hlt)
        rcases bool_two (hasB (nth ls k) h) with hh | hh
        · have HH := hid hh
          clear hh
          go_wp2_with fail
          have q := Has_any (nth ls k) h wr
          rw [HH.out] at q
          refine q.mono ?_
          clear q
          rintro e w1 ⟨rfl, hb1⟩
          go_wp2
          go_roundw
          case rel =>
            refine ⟨k + 1, by omega, by go_num, fun i hi => ?_, hbl.trans (hb1.mono hbl.size)⟩
            by_cases e : i = k
            · rw [e]; exact HH.out
            · exact hpre.out i (by omega)
          case measure => simp [intOf]; omega
        · have HH := hid hh
          have HZ := hid (hasB_zero hh)
          clear hh
          go_wp2_with fail
          have q := Has_any (nth ls k) h wr
          rw [HH.out, HZ.out] at q
          refine q.mono ?_
          clear q
          rintro e w1 ⟨rfl, hb1⟩
          go_wp2
          go_ret
          refine ⟨?_, hbl.trans (hb1.mono hbl.size)⟩
          have : inB ls h = true := by
            have hk' : k < ls.length := by rw [← HN.out]; exact hlt
            unfold inB
            rw [List.any_eq_true]
            refine ⟨ls[k], List.getElem_mem hk', ?_⟩
            have := HH.out
            rw [nth, nth_at hk'] at this
            exact this
          rw [this]; rfl
      · have hkn : k = n := by omega
        subst hkn
        go_wp2
        go_ret
        refine ⟨?_, hbl⟩
        have : inB ls h = false := by
          unfold inB
          rw [List.any_eq_false]
          intro l hl
          obtain ⟨i, hi, rfl⟩ := List.getElem_of_mem hl
          have := hpre.out i (by rw [HN.out]; exact hi)
          rw [nth, nth_at hi] at this
          simp [this]
        rw [this]; rfl
end Go.Proofs.Ytfgdikhpabapkaa
