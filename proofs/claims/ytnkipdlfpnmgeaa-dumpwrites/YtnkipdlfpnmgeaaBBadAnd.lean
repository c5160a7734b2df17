/-
  The laws' own cubes: the functions of some cubes.
  The law BddRefs: of any bits, texts and number it answers true.
  The example: two cubes, and what they have in common.
  The table of the example: two cubes, and what they have in common.
  Cube of a text that is no cube of the table; New of bits that no table has; the functions of some cubes.
  A ref that was never told: find, answer, root, Keep.
-/
import Derived.Test.YtnkipdlfpnmgeaaBBuildAnd
import Derived.Test.YtnkipdlfpnmgeaaWordsAnd
import Derived.Test.YtnkipdlfpnmgeaaBIteAnd
import Derived.Test.YtnkipdlfpnmgeaaBFoldAAnd
import Derived.Test.YtnkipdlfpnmgeaaBFoldAnd
namespace Go.Proofs.Ytnkipdlfpnmgeaa
open Go.RowKit Go.Maps

/-- No ref that the table told. -/
structure Bad (s : St) (bad : Int) : Prop where
  not0 : bad ≠ 0
  not1 : bad ≠ 1
  out : bad < (s.first : Int) ∨ (s.first : Int) + (s.roots.length : Int) ≤ bad
  hi : bad ≤ 9223372036854775807

/-- Numbers one behind the other, as a call is handed them. -/
def IntsAt (w : World) (v : Value) (xs : List Int) : Prop := ∃ b cap, v = .slice (some ⟨b, 0, none⟩) xs.length cap ∧ b < w.heap.size ∧ ∀ (i : Nat) (x : Int), xs[i]? = some x → w.cell? ⟨b, i, none⟩ = some (.int .i64 x)
theorem IntsAt.below {w w' : World} {v : Value} {xs : List Int} (h : IntsAt w v xs) (hb : Below w.heap.size w w') : IntsAt w' v xs := by
  obtain ⟨b, cap, hv, hl, hc⟩ := h
  exact ⟨b, cap, hv, Nat.lt_of_lt_of_le hl hb.size, fun i x hi => by rw [hb.cell hl]; exact hc i x hi⟩

/-- A list whose first number that is neither 0 nor 1 is bad. -/
def FirstBad (xs : List Int) (p : Nat) (bad : Int) : Prop := xs.length ≤ 3 ∧ xs[p]? = some bad ∧ ∀ (i : Nat) (x : Int), i < p → xs[i]? = some x → x = 0 ∨ x = 1

set_option maxHeartbeats 4000000 in
theorem find_bad {w : World} {y : Lay} {s : St} (hT : Tab w y s) (v : Value) (xs : List Int) (p : Nat) (bad : Int) (hI : IntsAt w v xs) (hF : FirstBad xs p bad) (hB : Bad s bad) :
    Calls Try.prog 64 #[.pointer (some ⟨y.tb, 0, none⟩), v] w fun e w' => e = .returned (.tuple #[.slice none 0 0, .bool false]) ∧ Below w.heap.size w w' := by
  obtain ⟨b, cap, rfl, hbl, hc⟩ := hI
  obtain ⟨hn3, hp, hpre⟩ := hF
  have HC := keep hc
  have HT := keep hT
  have HP := keep hp
  have HPRE := keep hpre
  have HBAD := keep hB
  have hsl := hT.small
  have hpn : p < xs.length := by
    rcases Nat.lt_or_ge p xs.length with h | h
    · exact h
    · rw [List.getElem?_eq_none h] at hp; cases hp
  obtain ⟨n, hnn⟩ : ∃ n, n = xs.length := ⟨_, rfl⟩
  have HNN := keep hnn
  have ltb := hT.lt y.own_tb
  rw [← hnn] at hn3 hpn ⊢
  have hfs : (s.first : Int) ≤ 1099511627776 := by omega
  have hrl : (s.roots.length : Int) ≤ 1073741824 := by omega
  clear hc hT hnn hp hpre hB hsl
  have hmk := run_zeros n (by omega)
  go_enter Try.func64, Try.ntmps64
  go_wp2
  go_loopw [14] (fun i wr => ∃ k : Nat, k ≤ p ∧ i = .int .i64 k ∧ (∃ cs, wr.heap[w.heap.size]? = some (.cells cs 3 (0, 0)) ∧ cs.size = n) ∧ Below w.heap.size w wr) (fun i _ => n - (intOf i).toNat)
  case atStart => exact ⟨0, Nat.zero_le _, rfl, ⟨zeros n, heap_alloc_new w _, zeros_size n⟩, (Below.refl _ _).alloc (Nat.le_refl _) _⟩
  case round =>
    obtain ⟨k, hk, rfl, ⟨cs, hcs, hsz⟩, hB⟩ := hrel
    have hkI : (k : Int) < (n : Int) := by omega
    have hk0 : (0 : Int) ≤ (k : Int) := by omega
    have hnI : (n : Int) ≤ 3 := by omega
    have HBW := keep hB
    by_cases hlt : k < p
    · obtain ⟨x, hx⟩ : ∃ x, xs[k]? = some x := ⟨xs[k]'(by have := HNN.out; omega), List.getElem?_eq_getElem _⟩
      have hcr : wr.cell? ⟨b, k, none⟩ = some (.int .i64 x) := by rw [hB.cell (by exact hbl)]; exact HC.out k x hx
      have e0 : wr.cell? ⟨w.heap.size, k, none⟩ = some (cs.getD k undef) := by
        rw [cell_at hcs, Array.getElem?_eq_getElem (by omega)]
        simp [Array.getD, show k < cs.size by omega]
      have ez : wr.frozen? ⟨w.heap.size, k, none⟩ = false := not_frozen hcs
      have HSTEP : Hid (∀ m : Int, (∃ cs', (wr.setCell ⟨w.heap.size, k, none⟩ (.int .i64 m)).heap[w.heap.size]? = some (.cells cs' 3 (0, 0)) ∧ cs'.size = n) ∧ Below w.heap.size w (wr.setCell ⟨w.heap.size, k, none⟩ (.int .i64 m))) := by
        intro m
        exact ⟨⟨cs.setIfInBounds k (.int .i64 m), set_block _ hcs, by simpa using hsz⟩, HBW.out.setCell (Nat.le_refl _) _⟩
      rcases HPRE.out k x hlt hx with rfl | rfl
      · clear hcs hx hB
        go_wp2
        go_roundw
        case rel =>
          obtain ⟨h1, h2⟩ := HSTEP.out 0
          exact ⟨k + 1, by omega, by go_num, h1, h2⟩
        case measure => simp [intOf]; omega
      · clear hcs hx hB
        go_wp2
        go_roundw
        case rel =>
          obtain ⟨h1, h2⟩ := HSTEP.out 1
          exact ⟨k + 1, by omega, by go_num, h1, h2⟩
        case measure => simp [intOf]; omega
    · have hkp : k = p := by omega
      subst hkp
      have hcr : wr.cell? ⟨b, k, none⟩ = some (.int .i64 bad) := by rw [hB.cell (by exact hbl)]; exact HC.out k bad HP.out
      obtain ⟨ao, rcap, hrs⟩ := HT.out.roots_slice
      have q0 : wr.cell? ⟨y.tb, 0, none⟩ = some (.int .i64 s.first) := by rw [hB.cell (by exact ltb)]; exact HT.out.cell0
      have q1 : wr.cell? ⟨y.tb, 1, none⟩ = some (.slice ao s.roots.length rcap) := by rw [hB.cell (by exact ltb), ← hrs]; exact HT.out.cell1
      have r0 : (bad == 0) = false := by rw [beq_eq_false_iff_ne]; exact HBAD.out.not0
      have r1 : (bad == 1) = false := by rw [beq_eq_false_iff_ne]; exact HBAD.out.not1
      obtain ⟨rl, hrl0⟩ : ∃ rl, rl = s.roots.length := ⟨_, rfl⟩
      have HRL := keep hrl0
      rw [← hrl0] at q1 hrl
      clear hrl0 hrs hcs hB
      rcases HBAD.out.out with ho | ho
      · have hnf : ¬ ((s.first : Int) ≤ bad) := by omega
        have hnd : decide ((s.first : Int) ≤ bad) = false := by simp; omega
        go_wp2
        go_quiet (fail)
        go_wp2
        go_ret2
        exact ⟨rfl, belowN HBW.out _⟩
      · have hf : (s.first : Int) ≤ bad := by omega
        have hw : IntKind.i64.wrap (bad - (s.first : Int)) = bad - (s.first : Int) := by have := HBAD.out.hi; rw [IntKind.wrap_i64]; omega
        have hw2 : wrap64 (bad - (s.first : Int)) = bad - (s.first : Int) := by have := HBAD.out.hi; unfold wrap64; omega
        have hn1 : ¬ (bad - (s.first : Int) < (rl : Int)) := by have := HRL.out; omega
        have hn2 : ¬ (bad < (rl : Int) + (s.first : Int)) := by omega
        clear ho
        go_wp2
        go_quiet (fail)
        go_wp2
        go_ret2
        exact ⟨rfl, belowN HBW.out _⟩

set_option maxHeartbeats 1000000 in
theorem answer_bad {w : World} {y : Lay} {s : St} (hT : Tab w y s) (v : Value) (xs : List Int) (p : Nat) (bad : Int) (hI : IntsAt w v xs) (hF : FirstBad xs p bad) (hB : Bad s bad) : AnsErr w (.pointer (some ⟨y.tb, 0, none⟩)) v 22 := by
  intro f
  have hb : Below w.heap.size w (((w.alloc (.cells #[.pointer (some ⟨y.tb, 0, none⟩)] 23)).alloc (.cells #[.int .i64 0] 25)).alloc (.cells #[.int .i64 0] 30)) := (((Below.refl _ _).alloc (Nat.le_refl _) _).alloc (by simp) _).alloc (by simp <;> omega) _
  have e1 : (w.alloc (.cells #[.pointer (some ⟨y.tb, 0, none⟩)] 23)).heap.size = w.heap.size + 1 := by simp
  have e2 : ((w.alloc (.cells #[.pointer (some ⟨y.tb, 0, none⟩)] 23)).alloc (.cells #[.int .i64 0] 25)).heap.size = w.heap.size + 1 + 1 := by simp
  have b1 : (((w.alloc (.cells #[.pointer (some ⟨y.tb, 0, none⟩)] 23)).alloc (.cells #[.int .i64 0] 25)).alloc (.cells #[.int .i64 0] 30)).heap[w.heap.size + 1]? = some (.cells #[.int .i64 0] 25 (0, 0)) := by
    rw [heap_alloc_old _ _ (by omega), ← e1]; exact heap_alloc_new _ _
  have b2 : (((w.alloc (.cells #[.pointer (some ⟨y.tb, 0, none⟩)] 23)).alloc (.cells #[.int .i64 0] 25)).alloc (.cells #[.int .i64 0] 30)).heap[w.heap.size + 1 + 1]? = some (.cells #[.int .i64 0] 30 (0, 0)) := by
    rw [← e2]; exact heap_alloc_new _ _
  have Q1 := keep (made_ok (hT.below hb))
  have e3 : (((w.alloc (.cells #[.pointer (some ⟨y.tb, 0, none⟩)] 23)).alloc (.cells #[.int .i64 0] 25)).alloc (.cells #[.int .i64 0] 30)).heap.size = w.heap.size + 1 + 1 + 1 := by simp
  have Q2 : Hid (Calls Try.prog 64 #[.pointer (some ⟨y.tb, 0, none⟩), v] (((w.alloc (.cells #[.pointer (some ⟨y.tb, 0, none⟩)] 23)).alloc (.cells #[.int .i64 0] 25)).alloc (.cells #[.int .i64 0] 30)) fun e w1 => e = .returned (.tuple #[.slice none 0 0, .bool false]) ∧
      w1.cell? ⟨w.heap.size + 1, 0, none⟩ = some (.int .i64 0) ∧ w1.frozen? ⟨w.heap.size + 1, 0, none⟩ = false ∧ w1.cell? ⟨w.heap.size + 1 + 1, 0, none⟩ = some (.int .i64 0) ∧ w1.frozen? ⟨w.heap.size + 1 + 1, 0, none⟩ = false ∧ Hid (Below w.heap.size w w1)) := by
    refine (find_bad (hT.below hb) v xs p bad (hI.below hb) hF hB).mono ?_
    rintro e w1 ⟨rfl, h1⟩
    have c1 : w1.heap[w.heap.size + 1]? = _ := (h1.block _ (by rw [e3]; omega)).trans b1
    have c2 : w1.heap[w.heap.size + 1 + 1]? = _ := (h1.block _ (by rw [e3]; omega)).trans b2
    exact ⟨rfl, by rw [cell_at c1]; rfl, not_frozen c1, by rw [cell_at c2]; rfl, not_frozen c2, hb.trans (h1.mono hb.size)⟩
  clear hT hI hF hB hb e1 e2 e3 b1 b2
  go_enter_defers Try.func45, Try.ntmps45
  go_wp2_with (first | (go_at_call 34; refine Q1.out.mono ?_; rintro e w' ⟨rfl, rfl⟩) | (go_at_call 64; refine Q2.out.mono ?_; rintro e w1 ⟨rfl, c1, f1, c2, f2, HB⟩))
  refine ⟨.tuple #[.int .i64 0, .int .i64 22], ?_, rfl, (HB.out.setCell (by show w.heap.size ≤ w.heap.size + 1; omega) _).setCell (by show w.heap.size ≤ w.heap.size + 1 + 1; omega) _⟩
  simp [results, Try.results45, go_sem, c1, c2]

theorem ints_new (w : World) (xs : List Int) : IntsAt (w.alloc (.cells (xs.map fun x => Value.int .i64 x).toArray 25)) (.slice (some ⟨w.heap.size, 0, none⟩) xs.length xs.length) xs := by
  refine ⟨w.heap.size, xs.length, rfl, by simp, fun i x hi => ?_⟩
  rw [cell_at (heap_alloc_new w _)]
  simp [hi]

set_option maxHeartbeats 1000000 in
theorem root_bad {w : World} {y : Lay} {s : St} (hT : Tab w y s) (bad : Int) (hB : Bad s bad) : RootErr w (.pointer (some ⟨y.tb, 0, none⟩)) (.int .i64 bad) 22 := by
  have q1 := made_ok hT
  have hb : Below w.heap.size w (w.alloc (.cells #[.int .i64 bad] 25)) := (Below.refl _ _).alloc (Nat.le_refl _) _
  have Q2 := keep (find_bad (hT.below hb) (.slice (some ⟨w.heap.size, 0, none⟩) 1 1) [bad] 0 bad (ints_new w [bad]) ⟨by simp, rfl, fun i x hi => by omega⟩ hB)
  have HB := keep hb
  clear hT hB hb
  unfold RootErr
  go_enter Try.func35, Try.ntmps35
  go_wp2_with (go_at_call 34; refine q1.mono ?_; rintro e w' ⟨rfl, rfl⟩)
  refine Q2.out.mono ?_
  rintro e w1 ⟨rfl, h1⟩
  have HB1 := keep (HB.out.trans (h1.mono HB.out.size))
  clear h1 q1
  go_wp2
  go_ret2
  exact ⟨rfl, HB1.out⟩

end Go.Proofs.Ytnkipdlfpnmgeaa
namespace Go.Proofs.Ytnkipdlfpnmgeaa
open Go.RowKit Go.Maps
open Bd (Nd)

set_option maxHeartbeats 4000000 in
theorem Cube_size {w : World} {y : Lay} {s : St} (hT : Tab w y s) (t : ByteArray) (ht : t.size ≠ s.bits) :
    Calls Try.prog 22 #[.pointer (some ⟨y.tb, 0, none⟩), .string t] w fun e w' => e = .returned (.tuple #[.int .i64 0, .int .i64 21]) ∧ Below w.heap.size w w' := by
  have ltb := hT.lt y.own_tb
  obtain ⟨x0, x1, xb, xs⟩ := box2 w (.cells #[.pointer (some ⟨y.tb, 0, none⟩)] 23) (.cells #[.string t] 9)
  have hTa := hT.below xb
  have c5 : ((w.alloc (.cells #[.pointer (some ⟨y.tb, 0, none⟩)] 23)).alloc (.cells #[.string t] 9)).cell? ⟨y.tb, 5, none⟩ = some (.int .i64 s.bits) := by rw [cell_at hTa.cells]; rfl
  have HTA := keep hTa
  have XB := keep xb
  have hne : ((t.size : Int) != (s.bits : Int)) = true := by rw [bne_iff_ne]; omega
  clear hT hTa x0 x1 xb xs ht
  go_enter Try.func22, Try.ntmps22
  go_wp2_with (first | (go_at_call 34; refine (made_ok HTA.out).mono ?_; rintro e w' ⟨rfl, rfl⟩))
  go_quiet (fail)
  go_wp2
  go_ret2
  exact ⟨rfl, belowN XB.out _⟩

set_option maxHeartbeats 4000000 in
theorem Cube_text {w : World} {y : Lay} {s : St} (hT : Tab w y s) (t : ByteArray) (ht : t.size = s.bits) (hr : Cu.right t.data.toList = false) :
    Calls Try.prog 22 #[.pointer (some ⟨y.tb, 0, none⟩), .string t] w fun e w' => e = .returned (.tuple #[.int .i64 0, .int .i64 21]) ∧ Below w.heap.size w w' := by
  have ltb := hT.lt y.own_tb
  obtain ⟨x0, x1, xb, xs⟩ := box2 w (.cells #[.pointer (some ⟨y.tb, 0, none⟩)] 23) (.cells #[.string t] 9)
  have hTa := hT.below xb
  have hck := check_any t ((w.alloc (.cells #[.pointer (some ⟨y.tb, 0, none⟩)] 23)).alloc (.cells #[.string t] 9)).drew
  have e0 : chkE t = 10 := if_neg (by rw [hr]; simp)
  rw [e0] at hck
  have HCK : Hid (Calls Try.prog 44 #[.string t] ((w.alloc (.cells #[.pointer (some ⟨y.tb, 0, none⟩)] 23)).alloc (.cells #[.string t] 9)).drew fun e w1 => e = .returned (.int .i64 10) ∧ w1.cell? ⟨w.heap.size, 0, none⟩ = some (.pointer (some ⟨y.tb, 0, none⟩)) ∧ w1.cell? ⟨w.heap.size + 1, 0, none⟩ = some (.string t) ∧ w1.cell? ⟨y.tb, 5, none⟩ = some (.int .i64 s.bits) ∧
      Hid (Below w.heap.size w w1)) := by
    refine hck.mono ?_
    rintro e w1 ⟨rfl, hb1⟩
    have hb1' : Below (w.heap.size + 2) ((w.alloc (.cells #[.pointer (some ⟨y.tb, 0, none⟩)] 23)).alloc (.cells #[.string t] 9)) w1 := by
      rw [← xs]; exact ⟨hb1.os, hb1.tape, hb1.output, hb1.size, hb1.block⟩
    have y0 : w1.heap[w.heap.size]? = _ := (hb1'.block _ (by omega)).trans x0
    have y1 : w1.heap[w.heap.size + 1]? = _ := (hb1'.block _ (by omega)).trans x1
    have hbw : Below w.heap.size w w1 := xb.trans (hb1'.mono (by omega))
    have hT1 := hT.below hbw
    exact ⟨rfl, by rw [cell_at y0]; rfl, by rw [cell_at y1]; rfl, by rw [cell_at hT1.cells]; rfl, hbw⟩
  have c5 : ((w.alloc (.cells #[.pointer (some ⟨y.tb, 0, none⟩)] 23)).alloc (.cells #[.string t] 9)).cell? ⟨y.tb, 5, none⟩ = some (.int .i64 s.bits) := by rw [cell_at hTa.cells]; rfl
  have HTA := keep hTa
  have hne : ((t.size : Int) != (s.bits : Int)) = false := by rw [ht]; simp
  clear hT hr hck hTa x0 x1 xb xs e0 ht
  go_enter Try.func22, Try.ntmps22
  go_wp2_with (first | (go_at_call 34; refine (made_ok HTA.out).mono ?_; rintro e w' ⟨rfl, rfl⟩))
  go_region_held3 (fun w' => w'.cell? ⟨w.heap.size, 0, none⟩ = some (.pointer (some ⟨y.tb, 0, none⟩)) ∧ w'.cell? ⟨w.heap.size + 1, 0, none⟩ = some (.string t) ∧ w'.cell? ⟨y.tb, 5, none⟩ = some (.int .i64 s.bits)) (first | (go_keep; done) | exact ⟨q1, q2, q3⟩) (first | (go_at_call 44; refine HCK.out.mono ?_; rintro e w1 ⟨rfl, q1, q2, q3, HBW⟩))
  go_wp2
  go_ret2
  exact ⟨rfl, HBW.out⟩

set_option maxHeartbeats 400000 in
theorem New_err (w : World) (bits : Int) (hb : bits < 1 ∨ 128 < bits) : Calls Try.prog 20 #[.int .i64 bits, .int .i64 1048576] w fun e w' => e = .returned (.tuple #[.pointer none, .int .i64 1]) ∧ w' = w := by
  rcases hb with h | h
  · go_enter Try.func20, Try.ntmps20
    go_wp2
    go_ret2
    exact ⟨rfl, rfl⟩
  · have h1 : ¬ (bits < 1) := by omega
    go_enter Try.func20, Try.ntmps20
    go_wp2
    go_ret2
    exact ⟨rfl, rfl⟩

theorem suf_cof {t : ByteArray} {k : Nat} (hk : k < t.size) (b : Bool) : Bd.cof (suf t k) k b = suf t (k + 1) ∨ Bd.cof (suf t k) k b = Bd.ff := by
  by_cases h0 : t.data.toList.getD k 0 = 48
  · rw [suf_zero hk h0, Bd.cof_mux (suf_from t (k + 1)) (Bd.from_ff _)]
    cases b
    · exact Or.inl rfl
    · exact Or.inr rfl
  · by_cases h1 : t.data.toList.getD k 0 = 49
    · rw [suf_one hk h1, Bd.cof_mux (Bd.from_ff _) (suf_from t (k + 1))]
      cases b
      · exact Or.inr rfl
      · exact Or.inl rfl
    · rw [suf_free h0 h1, Bd.cof_from (suf_from t (k + 1))]
      exact Or.inl rfl

/-- What a table comes upon that makes some cubes. -/
def cubeFam (bits : Nat) (ts : List ByteArray) (hs : ∀ t, t ∈ ts → t.size = bits) (hl : ts.length ≤ 30) : Bd.Fam bits 32 where
  F k f := (∃ t, t ∈ ts ∧ f = suf t k) ∨ f = Bd.ff ∨ f = Bd.tt
  dep k f h := by
    rcases h with ⟨t, _, rfl⟩ | rfl | rfl
    · exact suf_from t k
    · exact Bd.from_ff _
    · exact Bd.from_tt _
  go k f b hk h := by
    rcases h with ⟨t, ht, rfl⟩ | rfl | rfl
    · rcases suf_cof (t := t) (k := k) (by rw [hs t ht]; exact hk) b with e | e
      · exact Or.inl ⟨t, ht, e⟩
      · exact Or.inr (Or.inl e)
    · exact Or.inr (Or.inl rfl)
    · exact Or.inr (Or.inr rfl)
  en k j := ((ts.map fun t => suf t k) ++ [Bd.ff, Bd.tt]).getD j Bd.ff
  all k f _ h := by
    have hm : f ∈ (ts.map fun t => suf t k) ++ [Bd.ff, Bd.tt] := by
      rw [List.mem_append]
      rcases h with ⟨t, ht, rfl⟩ | rfl | rfl
      · exact Or.inl (List.mem_map.2 ⟨t, ht, rfl⟩)
      · exact Or.inr List.mem_cons_self
      · exact Or.inr (List.mem_cons_of_mem _ List.mem_cons_self)
    obtain ⟨j, hj, e⟩ := List.mem_iff_getElem.1 hm
    refine ⟨j, ?_, ?_⟩
    · simp at hj; omega
    · rw [List.getD_eq_getElem?_getD, List.getElem?_eq_getElem hj, e]; rfl
end Go.Proofs.Ytnkipdlfpnmgeaa
namespace Go.Proofs.Ytnkipdlfpnmgeaa
namespace Bd

def pr (k : Nat) : Fn := fun h => h k
def p01 : Fn := fun h => h 0 && h 1

theorem few_of {bits : Nat} {L : List Nd} (hL : Okay bits L) (D : List Fn) (h : ∀ i, i < L.length → den L (i + 2) ∈ D) : L.length ≤ D.length := by
  have hn : ((List.range L.length).map fun i => den L (i + 2)).Nodup := by
    unfold List.Nodup
    rw [List.pairwise_map]
    refine List.Pairwise.imp_of_mem ?_ (List.nodup_range (n := L.length))
    intro a b ha hb hab he
    rw [List.mem_range] at ha hb
    have := canon hL (by omega) (by omega) he
    omega
  have := List.Nodup.length_le_of_subset (l₂ := D) hn (fun f hf => by
    rw [List.mem_map] at hf
    obtain ⟨i, hi, rfl⟩ := hf
    exact h i (List.mem_range.1 hi))
  simpa using this

/-- A node's function hangs on its bit. -/
theorem hangs {bits : Nat} {L : List Nd} (hL : Okay bits L) {i : Nat} {x : Nd} (hx : L[i]? = some x) : cof (den L (i + 2)) x.1 false ≠ cof (den L (i + 2)) x.1 true := by
  have hi := getElem?_lt hx
  obtain ⟨a, b, c, d, e, f⟩ := hL.fit i x hx
  have fl := (from_den hL _ (by omega : x.2.1 < L.length + 2)).mono e
  have fh := (from_den hL _ (by omega : x.2.2 < L.length + 2)).mono f
  rw [den_at hL hx, cof_mux fl fh false, cof_mux fl fh true]
  exact fun he => c (canon hL (by omega) (by omega) he)

/-- Functions of two bits. -/
def twoFam (S0 S1 : List Fn) (h1 : ∀ f, f ∈ S1 → From 1 f) (g0 : ∀ f, f ∈ S0 → ∀ b, cof f 0 b ∈ S1) (g1 : ∀ f, f ∈ S1 → ∀ b, cof f 1 b = ff ∨ cof f 1 b = tt) (l0 : S0.length ≤ 5) (l1 : S1.length ≤ 5) : Fam 2 5 where
  F k f := (k = 0 ∧ f ∈ S0) ∨ (k = 1 ∧ f ∈ S1) ∨ (2 ≤ k ∧ (f = ff ∨ f = tt))
  dep k f h := by
    rcases h with ⟨rfl, _⟩ | ⟨rfl, h⟩ | ⟨_, rfl | rfl⟩
    · intro a b hab
      rw [show a = b from funext fun j => hab j (Nat.zero_le _)]
    · exact h1 f h
    · exact from_ff _
    · exact from_tt _
  go k f b hk h := by
    rcases h with ⟨rfl, h⟩ | ⟨rfl, h⟩ | ⟨h, _⟩
    · exact Or.inr (Or.inl ⟨rfl, g0 f h b⟩)
    · exact Or.inr (Or.inr ⟨Nat.le_refl _, g1 f h b⟩)
    · omega
  en k j := if k = 0 then S0.getD j ff else S1.getD j ff
  all k f hk h := by
    have key : ∀ S : List Fn, S.length ≤ 5 → f ∈ S → ∃ j, j < 5 ∧ f = S.getD j ff := by
      intro S hS hf
      obtain ⟨j, hj, e⟩ := List.mem_iff_getElem.1 hf
      refine ⟨j, by omega, ?_⟩
      rw [List.getD_eq_getElem?_getD, List.getElem?_eq_getElem hj, e]; rfl
    rcases h with ⟨rfl, h⟩ | ⟨rfl, h⟩ | ⟨h, _⟩
    · exact key S0 l0 h
    · exact key S1 l1 h
    · omega

theorem cof_const (f : Fn) (k : Nat) (h : f = ff ∨ f = tt) : cof f k false = cof f k true := by rcases h with rfl | rfl <;> rfl
theorem from_pr : From 1 (pr 1) := fun _ _ h => h 1 (Nat.le_refl _)

def A1 : Fam 2 5 := twoFam [pr 0] [ff, tt] (fun f h => by simp at h; rcases h with rfl | rfl; exact from_ff _; exact from_tt _)
  (fun f h b => by simp at h; subst h; cases b; exact List.mem_cons_self; exact List.mem_cons_of_mem _ List.mem_cons_self)
  (fun f h b => by simp at h; rcases h with rfl | rfl; exact Or.inl rfl; exact Or.inr rfl) (by simp) (by simp)
def A2 : Fam 2 5 := twoFam [pr 0, pr 1] [pr 1, ff, tt] (fun f h => by simp at h; rcases h with rfl | rfl | rfl; exact from_pr; exact from_ff _; exact from_tt _)
  (fun f h b => by
    simp at h
    rcases h with rfl | rfl
    · cases b
      · exact List.mem_cons_of_mem _ List.mem_cons_self
      · exact List.mem_cons_of_mem _ (List.mem_cons_of_mem _ List.mem_cons_self)
    · rw [show cof (pr 1) 0 b = pr 1 by funext h; unfold cof pr; exact setb_other _ _ _ (by omega)]; exact List.mem_cons_self)
  (fun f h b => by simp at h; rcases h with rfl | rfl | rfl; cases b; exact Or.inl rfl; exact Or.inr rfl; exact Or.inl rfl; exact Or.inr rfl) (by simp) (by simp)
def A3 : Fam 2 5 := twoFam [pr 0, p01] [pr 1, ff, tt] (fun f h => by simp at h; rcases h with rfl | rfl | rfl; exact from_pr; exact from_ff _; exact from_tt _)
  (fun f h b => by
    simp at h
    rcases h with rfl | rfl
    · cases b
      · exact List.mem_cons_of_mem _ List.mem_cons_self
      · exact List.mem_cons_of_mem _ (List.mem_cons_of_mem _ List.mem_cons_self)
    · cases b
      · exact List.mem_cons_of_mem _ List.mem_cons_self
      · rw [show cof p01 0 true = pr 1 by funext h; simp [cof, p01, pr, setb]]; exact List.mem_cons_self)
  (fun f h b => by simp at h; rcases h with rfl | rfl | rfl; cases b; exact Or.inl rfl; exact Or.inr rfl; exact Or.inl rfl; exact Or.inr rfl) (by simp) (by simp)

/-- The functions of the nodes of a table of two bits. -/
theorem two_in {L : List Nd} (hL : Okay 2 L) {S0 S1 : List Fn} {h1 g0 g1 l0 l1} (hW : Within (twoFam S0 S1 h1 g0 g1 l0 l1) L) {i : Nat} (hi : i < L.length) :
    (den L (i + 2) ∈ S0 ∧ cof (den L (i + 2)) 0 false ≠ cof (den L (i + 2)) 0 true) ∨ (den L (i + 2) ∈ S1 ∧ cof (den L (i + 2)) 1 false ≠ cof (den L (i + 2)) 1 true) := by
  have hx : L[i]? = some L[i] := List.getElem?_eq_getElem hi
  have hh := hangs hL hx
  rcases hW i _ hx with ⟨e, h⟩ | ⟨e, h⟩ | ⟨e, h⟩
  · rw [e] at hh; exact Or.inl ⟨h, hh⟩
  · rw [e] at hh; exact Or.inr ⟨h, hh⟩
  · exact absurd (cof_const _ _ h) hh

def v2 (a b : Bool) : Nat → Bool := fun k => if k = 0 then a else b

theorem one_node {L : List Nd} (hL : Okay 2 L) (hW : Within A1 L) {m : Nat} (hm : m < L.length + 2) (hd : den L m = pr 0) : L = [(0, 0, 1)] ∧ m = 2 := by
  have hle : L.length ≤ 1 := few_of hL [pr 0] fun i hi => by
    rcases two_in hL hW hi with ⟨h, _⟩ | ⟨h, h2⟩
    · exact h
    · simp at h; exact absurd (cof_const _ _ h) h2
  have e1 := congrFun hd (v2 true false)
  have e2 := congrFun hd (v2 false true)
  have e3 := congrFun hd (v2 false false)
  have hm2 : 2 ≤ m := by
    rcases Nat.lt_or_ge m 2 with h | h
    · have : m = 0 ∨ m = 1 := by omega
      rcases this with rfl | rfl
      · rw [den_zero] at e1; cases e1
      · rw [den_one] at e2; cases e2
    · exact h
  have hme : m = 2 := by omega
  subst hme
  match L, hL, hd, e1, e2, e3, hm, hle with
  | [], _, _, _, _, _, hm, _ => simp at hm
  | [(b, lo, hi)], hL, hd, e1, e2, e3, _, _ =>
    obtain ⟨a1, a2, a3, a4, _, _⟩ := hL.fit 0 (b, lo, hi) rfl
    simp only at a1 a2 a3 a4
    have hb : b = 0 ∨ b = 1 := by omega
    have hl : lo = 0 ∨ lo = 1 := by omega
    have hh : hi = 0 ∨ hi = 1 := by omega
    clear hd hL
    rcases hb with rfl | rfl <;> rcases hl with rfl | rfl <;> rcases hh with rfl | rfl <;> first | exact ⟨rfl, rfl⟩ | (exfalso; revert e1 e2 e3 a3; decide)
  | _ :: _ :: _, _, _, _, _, _, _, hle => simp at hle

theorem two_nodes {N : List Nd} (hL : Okay 2 ([(0, 0, 1)] ++ N)) (hW : Within A2 ([(0, 0, 1)] ++ N)) {m : Nat} (hm : m < ([(0, 0, 1)] ++ N).length + 2) (hd : den ([(0, 0, 1)] ++ N) m = pr 1) : N = [(1, 0, 1)] ∧ m = 3 := by
  have hle : ([(0, 0, 1)] ++ N).length ≤ 2 := few_of hL [pr 0, pr 1] fun i hi => by
    rcases two_in hL hW hi with ⟨h, _⟩ | ⟨h, h2⟩
    · exact h
    · simp only [List.mem_cons, List.not_mem_nil, or_false] at h
      rcases h with h | h
      · rw [h]; exact List.mem_cons_of_mem _ List.mem_cons_self
      · exact absurd (cof_const _ _ h) h2
  have e1 := congrFun hd (v2 true false)
  have e2 := congrFun hd (v2 false true)
  have e3 := congrFun hd (v2 false false)
  have e4 := congrFun hd (v2 true true)
  have hm2 : 3 ≤ m := by
    rcases Nat.lt_or_ge m 3 with h | h
    · rw [den_append_old _ _ (by simpa using h)] at e1 e2 e3
      have : m = 0 ∨ m = 1 ∨ m = 2 := by omega
      rcases this with rfl | rfl | rfl <;> (exfalso; revert e1 e2 e3; decide)
    · exact h
  simp only [List.length_append, List.length_cons, List.length_nil] at hm hle
  have hme : m = 3 := by omega
  subst hme
  match N, hL, hd, e1, e2, e3, e4, hm, hle with
  | [], _, _, _, _, _, _, hm, _ => simp at hm
  | [(b, lo, hi)], hL, hd, e1, e2, e3, e4, _, _ =>
    obtain ⟨a1, a2, a3, a4, a5, a6⟩ := hL.fit 1 (b, lo, hi) rfl
    simp only at a1 a2 a3 a4 a5 a6
    have hb : b = 0 ∨ b = 1 := by omega
    have hl : lo = 0 ∨ lo = 1 ∨ lo = 2 := by omega
    have hh : hi = 0 ∨ hi = 1 ∨ hi = 2 := by omega
    clear hd hL
    rcases hb with rfl | rfl <;> rcases hl with rfl | rfl | rfl <;> rcases hh with rfl | rfl | rfl <;> first | exact ⟨rfl, rfl⟩ | (exfalso; revert e1 e2 e3 e4 a3 a5 a6; decide)
  | _ :: _ :: _, _, _, _, _, _, _, _, hle => simp at hle; omega

theorem three_nodes {N : List Nd} (hL : Okay 2 ([(0, 0, 1), (1, 0, 1)] ++ N)) (hW : Within A3 ([(0, 0, 1), (1, 0, 1)] ++ N)) {m : Nat} (hm : m < ([(0, 0, 1), (1, 0, 1)] ++ N).length + 2) (hd : den ([(0, 0, 1), (1, 0, 1)] ++ N) m = p01) : N = [(0, 0, 3)] ∧ m = 4 := by
  have hle : ([(0, 0, 1), (1, 0, 1)] ++ N).length ≤ 3 := few_of hL [pr 0, p01, pr 1] fun i hi => by
    rcases two_in hL hW hi with ⟨h, _⟩ | ⟨h, h2⟩
    · simp only [List.mem_cons, List.not_mem_nil, or_false] at h
      rcases h with h | h
      · rw [h]; exact List.mem_cons_self
      · rw [h]; exact List.mem_cons_of_mem _ List.mem_cons_self
    · simp only [List.mem_cons, List.not_mem_nil, or_false] at h
      rcases h with h | h
      · rw [h]; exact List.mem_cons_of_mem _ (List.mem_cons_of_mem _ List.mem_cons_self)
      · exact absurd (cof_const _ _ h) h2
  have e1 := congrFun hd (v2 true false)
  have e2 := congrFun hd (v2 false true)
  have e3 := congrFun hd (v2 false false)
  have e4 := congrFun hd (v2 true true)
  have hm2 : 4 ≤ m := by
    rcases Nat.lt_or_ge m 4 with h | h
    · rw [den_append_old _ _ (by simpa using h)] at e1 e2 e3 e4
      have : m = 0 ∨ m = 1 ∨ m = 2 ∨ m = 3 := by omega
      rcases this with rfl | rfl | rfl | rfl <;> (exfalso; revert e1 e2 e3 e4; decide)
    · exact h
  simp only [List.length_append, List.length_cons, List.length_nil] at hm hle
  have hme : m = 4 := by omega
  subst hme
  match N, hL, hd, e1, e2, e3, e4, hm, hle with
  | [], _, _, _, _, _, _, hm, _ => simp at hm
  | [(b, lo, hi)], hL, hd, e1, e2, e3, e4, _, _ =>
    obtain ⟨a1, a2, a3, a4, a5, a6⟩ := hL.fit 2 (b, lo, hi) rfl
    simp only at a1 a2 a3 a4 a5 a6
    have hb : b = 0 ∨ b = 1 := by omega
    have hl : lo = 0 ∨ lo = 1 ∨ lo = 2 ∨ lo = 3 := by omega
    have hh : hi = 0 ∨ hi = 1 ∨ hi = 2 ∨ hi = 3 := by omega
    clear hd hL
    rcases hb with rfl | rfl <;> rcases hl with rfl | rfl | rfl | rfl <;> rcases hh with rfl | rfl | rfl | rfl <;> first | exact ⟨rfl, rfl⟩ | (exfalso; revert e1 e2 e3 e4 a3 a5 a6; decide)
  | _ :: _ :: _, _, _, _, _, _, _, _, hle => simp at hle; omega
end Bd

theorem suf_1x : suf ⟨#[49, 120]⟩ 0 = Bd.pr 0 := by
  funext h
  unfold suf Bd.pr
  show (List.range 2).all _ = _
  simp [List.range_succ]
theorem suf_x1 : suf ⟨#[120, 49]⟩ 0 = Bd.pr 1 := by
  funext h
  unfold suf Bd.pr
  show (List.range 2).all _ = _
  simp [List.range_succ]
theorem and_p01 : Bd.iteF (Bd.pr 0) (Bd.pr 1) Bd.ff = Bd.p01 := by
  funext h
  unfold Bd.iteF Bd.pr Bd.p01 Bd.ff
  cases h 0 <;> rfl
end Go.Proofs.Ytnkipdlfpnmgeaa
namespace Go.Proofs.Ytnkipdlfpnmgeaa
open Go.RowKit Go.Maps
open Bd (Nd)

theorem node_old {s : St} {r n : Nat} (h : s.node? r = some n) (L : List Nd) (t : List Nat) : ({ s with L := L, roots := s.roots ++ t } : St).node? r = some n := by
  unfold St.node? at h ⊢
  by_cases h1 : r < 2
  · rw [if_pos h1] at h ⊢; exact h
  · rw [if_neg h1] at h ⊢
    by_cases h2 : s.first ≤ r
    · rw [if_pos h2] at h
      show (if s.first ≤ r then (s.roots ++ t)[r - s.first]? else none) = some n
      rw [if_pos h2, List.getElem?_append_left (Bd.getElem?_lt h)]
      exact h
    · rw [if_neg h2] at h; cases h

theorem mux_pr (k : Nat) : Bd.mux k Bd.ff Bd.tt = Bd.pr k := by
  funext h
  show (if h k then true else false) = h k
  cases h k <;> rfl

/-- What a call on a table that lies behind B leaves ahead of B. -/
theorem moves_out {B : Nat} {w0 w w' : World} {y y' : Lay} (hb : Below B w0 w) (hB : B ≤ w.heap.size) (hy : ∀ k, y.own k → B ≤ k) (hm : Moves noX w y w' y') : Below B w0 w' ∧ ∀ k, y'.own k → B ≤ k := by
  refine ⟨⟨hm.os.trans hb.os, hm.tape.trans hb.tape, hm.output.trans hb.output, Nat.le_trans hb.size hm.size, fun k hk => ?_⟩, fun k hk => ?_⟩
  · rw [hm.block k (by omega) (fun h => by have := hy k h; omega) (fun h => h)]
    exact hb.block k hk
  · rcases hm.own k hk with h | h
    · exact hy k h
    · omega

theorem refs_two (w : World) (r0 r1 : Nat) : RefsAt (w.alloc (.cells #[i6 r0, i6 r1] 25)) (.slice (some ⟨w.heap.size, 0, none⟩) 2 2) [r0, r1] := by
  refine ⟨_, 2, rfl, fun i q hi => ?_⟩
  match i, hi with
  | 0, hi => simp at hi; subst hi; exact ⟨w.heap.size, 0, rfl, by simp, by rw [cell_at (heap_alloc_new w _)]; rfl⟩
  | 1, hi => simp at hi; subst hi; exact ⟨w.heap.size, 0, rfl, by simp, by rw [cell_at (heap_alloc_new w _)]; rfl⟩
  | (i + 2), hi => simp at hi

/-- The table of the example, after one call, two and three. -/
structure Wakes (B : Nat) (w0 w : World) (tb : Nat) (L : List Nd) (n : Nat) (rs : List (Nat × Nat)) : Prop where
  ex : ∃ y t, y.tb = tb ∧ Tab w y ⟨L, t, 2, 2, 10⟩ ∧ t.length ≤ n ∧ (∀ p, p ∈ rs → St.node? ⟨L, t, 2, 2, 10⟩ p.1 = some p.2) ∧ Below B w0 w ∧ (∀ k, y.own k → B ≤ k) ∧ B ≤ w.heap.size

set_option maxHeartbeats 1000000 in
theorem wake_one {B : Nat} {w0 w : World} {tb : Nat} (h : Wakes B w0 w tb [] 0 []) : Calls Try.prog 22 #[.pointer (some ⟨tb, 0, none⟩), .string ⟨#[49, 120]⟩] w fun e w' => ∃ r, e = .returned (.tuple #[i6 r, .int .i64 0]) ∧ Wakes B w0 w' tb [(0, 0, 1)] 1 [(r, 2)] := by
  obtain ⟨y, t, rfl, hT, hl, hr, hb, hy, hB⟩ := h.ex
  refine (Cube_ok (s := ⟨[], t, 2, 2, 10⟩) Bd.A1 hT (Bd.within_nil _) (Nat.le_refl _) (by show t.length + 1 ≤ _; omega) (by show 2 * 5 ≤ 10; omega) ⟨#[49, 120]⟩ rfl (by decide) (by rw [suf_1x]; exact Or.inl ⟨rfl, List.mem_cons_self⟩)).mono ?_
  rintro e w' ⟨r, rfl, ⟨N, t', y', m, hT', hW', hn, hm, hd, hmv, ht⟩⟩
  rw [suf_1x] at hd
  obtain ⟨hN, rfl⟩ := Bd.one_node hT'.okay hW' hm hd
  have hN' : N = [(0, 0, 1)] := hN
  subst hN'
  obtain ⟨hb', hy'⟩ := moves_out hb hB hy hmv
  refine ⟨r, rfl, y', t ++ t', hmv.tb, hT', by rw [List.length_append]; have := ht.few; omega, ?_, hb', hy', Nat.le_trans hB hmv.size⟩
  intro p hp
  simp at hp
  subst hp
  exact hn

set_option maxHeartbeats 1000000 in
theorem wake_two {B : Nat} {w0 w : World} {tb r0 : Nat} (h : Wakes B w0 w tb [(0, 0, 1)] 1 [(r0, 2)]) : Calls Try.prog 22 #[.pointer (some ⟨tb, 0, none⟩), .string ⟨#[120, 49]⟩] w fun e w' => ∃ r, e = .returned (.tuple #[i6 r, .int .i64 0]) ∧ Wakes B w0 w' tb [(0, 0, 1), (1, 0, 1)] 2 [(r0, 2), (r, 3)] := by
  obtain ⟨y, t, rfl, hT, hl, hr, hb, hy, hB⟩ := h.ex
  have hW : Bd.Within Bd.A2 [(0, 0, 1)] := by
    have := (Bd.within_nil Bd.A2).snoc (x := (0, 0, 1)) (Or.inl ⟨rfl, List.mem_cons.2 (Or.inl (mux_pr 0))⟩)
    exact this
  refine (Cube_ok (s := ⟨[(0, 0, 1)], t, 2, 2, 10⟩) Bd.A2 hT hW (Nat.le_refl _) (by show t.length + 1 ≤ _; omega) (by show 2 * 5 ≤ 10; omega) ⟨#[120, 49]⟩ rfl (by decide) (by rw [suf_x1]; exact Or.inl ⟨rfl, List.mem_cons_of_mem _ List.mem_cons_self⟩)).mono ?_
  rintro e w' ⟨r, rfl, ⟨N, t', y', m, hT', hW', hn, hm, hd, hmv, ht⟩⟩
  rw [suf_x1] at hd
  obtain ⟨rfl, rfl⟩ := Bd.two_nodes hT'.okay hW' hm hd
  obtain ⟨hb', hy'⟩ := moves_out hb hB hy hmv
  refine ⟨r, rfl, y', t ++ t', hmv.tb, hT', by rw [List.length_append]; have := ht.few; omega, ?_, hb', hy', Nat.le_trans hB hmv.size⟩
  intro p hp
  simp at hp
  rcases hp with rfl | rfl
  · exact node_old (hr (r0, 2) List.mem_cons_self) _ t'
  · exact hn

theorem Wakes.below {B : Nat} {w0 w w' : World} {tb n : Nat} {L : List Nd} {rs : List (Nat × Nat)} (h : Wakes B w0 w tb L n rs) (hb : Below w.heap.size w w') : Wakes B w0 w' tb L n rs := by
  obtain ⟨y, t, e, hT, hl, hr, hb0, hy, hB⟩ := h.ex
  exact ⟨y, t, e, hT.below hb, hl, hr, hb0.trans (hb.mono hB), hy, Nat.le_trans hB hb.size⟩

theorem list_four : listOf [(0, 0, 1), (1, 0, 1), (0, 0, 3)] 4 = [(1, 0, 1), (0, 0, 2)] := by decide

set_option maxHeartbeats 1000000 in
theorem wake_list {B : Nat} {w0 w : World} {tb r : Nat} (h : Wakes B w0 w tb [(0, 0, 1), (1, 0, 1), (0, 0, 3)] 3 [(r, 4)]) :
    Calls Try.prog 15 #[.pointer (some ⟨tb, 0, none⟩), i6 r] w fun e w' => ∃ v, e = .returned (.tuple #[v, .int .i64 0]) ∧ NodesIn w' v [(1, 0, 1), (0, 0, 2)] ∧ Wakes B w0 w' tb [(0, 0, 1), (1, 0, 1), (0, 0, 3)] 3 [(r, 4)] := by
  have h0 := h
  obtain ⟨y, t, rfl, hT, hl, hr, hb, hy, hB⟩ := h.ex
  refine (List_ok hT (Nat.le_refl _) r 4 (hr (r, 4) List.mem_cons_self) (by show 4 < 5; omega)).mono ?_
  rintro e w' ⟨v, rfl, ho, hb'⟩
  rw [list_four] at ho
  exact ⟨v, rfl, nodesIn_of ho (by decide), h0.below hb'⟩
theorem wake_size {B : Nat} {w0 w : World} {tb r : Nat} (h : Wakes B w0 w tb [(0, 0, 1), (1, 0, 1), (0, 0, 3)] 3 [(r, 4)]) :
    Calls Try.prog 13 #[.pointer (some ⟨tb, 0, none⟩)] w fun e w' => e = .returned (.int .i64 3) ∧ w' = w := by
  obtain ⟨y, t, rfl, hT, hl, hr, hb, hy, hB⟩ := h.ex
  exact Size_ok hT
theorem wake_new (w : World) : Calls Try.prog 20 #[.int .i64 2, .int .i64 10] w fun e w' => ∃ tb, e = .returned (.tuple #[.pointer (some ⟨tb, 0, none⟩), .int .i64 0]) ∧ Wakes w.heap.size w w' tb [] 0 [] := by
  refine (New_ok w 2 10 (by omega) (by omega) (by omega)).mono ?_
  rintro e w' ⟨y, rfl, hT, hb, hy⟩
  exact ⟨y.tb, rfl, y, [], rfl, hT, Nat.le_refl _, fun p hp => by simp at hp, hb, hy, hb.size⟩
theorem nodes_lit (w : World) : NodesIn (w.alloc (.cells #[.int .i64 1, .int .i64 0, .int .i64 1, .int .i64 0, .int .i64 0, .int .i64 2] 62)) (.slice (some ⟨w.heap.size, 0, none⟩) 2 2) [(1, 0, 1), (0, 0, 2)] := by
  refine ⟨_, 2, rfl, fun i x hi => ?_⟩
  match i, hi with
  | 0, hi => simp at hi; subst hi; exact ⟨by rw [cell_at (heap_alloc_new w _)]; rfl, by rw [cell_at (heap_alloc_new w _)]; rfl, by rw [cell_at (heap_alloc_new w _)]; rfl⟩
  | 1, hi => simp at hi; subst hi; exact ⟨by rw [cell_at (heap_alloc_new w _)]; rfl, by rw [cell_at (heap_alloc_new w _)]; rfl, by rw [cell_at (heap_alloc_new w _)]; rfl⟩
  | (i + 2), hi => simp at hi

theorem NodesIn.below {w w' : World} {v : Value} {L : List Nd} (h : NodesIn w v L) (hb : Below w.heap.size w w') : NodesIn w' v L := by
  obtain ⟨g, cap, e, hc⟩ := h
  refine ⟨g, cap, e, fun i x hi => ?_⟩
  obtain ⟨a, b, c⟩ := hc i x hi
  have hg : g < w.heap.size := World.block_lt_of_cell? w _ a
  exact ⟨by rw [hb.cell hg]; exact a, by rw [hb.cell hg]; exact b, by rw [hb.cell hg]; exact c⟩

end Go.Proofs.Ytnkipdlfpnmgeaa
namespace Go.Proofs.Ytnkipdlfpnmgeaa
open Go.RowKit Go.Maps
open Bd (Nd)

/-- What is known of a slice of texts that came in. -/
def Came (w : World) (a0 : Option Addr) (len cap : Nat) (ss : List ByteArray) : Prop :=
  (a0 = none ∧ len = 0 ∧ cap = 0 ∧ ss = []) ∨ ∃ a, a0 = some a ∧ len ≤ cap ∧ cap ≤ maxLen ∧ ss.length = cap ∧ (∀ i, i < ss.length → w.cell? (a.add i) = some (.string (ss.getD i ByteArray.empty))) ∧ ∀ s ∈ ss, s.size ≤ maxLen
theorem addr_add (g o i : Nat) : (⟨g, o, none⟩ : Addr).add i = ⟨g, o + i, none⟩ := by
  unfold Addr.add; split <;> simp_all
theorem addr_of {w : World} {a : Addr} {v : Value} (h : w.cell? (a.add 0) = some v) : (∃ g o, a = ⟨g, o, none⟩) ∧ a.block < w.heap.size := by
  have e : a.add 0 = a := by unfold Addr.add; simp
  rw [e] at h
  obtain ⟨g, o, sp⟩ := a
  have hlt : g < w.heap.size := World.block_lt_of_cell? w _ h
  refine ⟨?_, hlt⟩
  cases sp with
  | none => exact ⟨g, o, rfl⟩
  | some s =>
    exfalso
    unfold World.cell? at h
    simp only [Option.isSome_some, if_true] at h
    split at h <;> cases h
theorem text_of {w : World} {a0 : Option Addr} {len cap : Nat} {ss : List ByteArray} (h : Came w a0 len cap ss) {i : Nat} (hi : i < len) :
    ∃ g o, a0 = some ⟨g, o, none⟩ ∧ g < w.heap.size ∧ w.cell? ⟨g, o + i, none⟩ = some (.string (ss.getD i ByteArray.empty)) ∧ i < ss.length := by
  rcases h with ⟨_, h, _⟩ | ⟨a, rfl, hl, hm, hz, hc, _⟩
  · omega
  · obtain ⟨⟨g, o, rfl⟩, hb⟩ := addr_of (hc 0 (by omega))
    have := hc i (by omega)
    rw [addr_add] at this
    exact ⟨g, o, rfl, hb, this, by omega⟩

/-- The texts of which the law makes cubes. -/
def fitting (bits : Nat) (ss : List ByteArray) : List ByteArray := (ss.take 30).filter fun t => t.size == bits
def refFam (bits : Nat) (ss : List ByteArray) : Bd.Fam bits 32 := cubeFam bits (fitting bits ss) (fun t ht => by unfold fitting at ht; rw [List.mem_filter] at ht; simpa using ht.2) (by
  unfold fitting
  have h1 := List.length_filter_le (fun t : ByteArray => t.size == bits) (ss.take 30)
  have h2 : (ss.take 30).length ≤ 30 := by rw [List.length_take]; omega
  omega)

/-- The law's table behind k cubes. -/
structure Refs (B : Nat) (w0 w : World) (tb bits : Nat) (A : Bd.Fam bits 32) (bad : Int) (k : Nat) (kn : Bool) : Prop where
  ex : ∃ y L roots, y.tb = tb ∧ Tab w y ⟨L, roots, 2, bits, 1048576⟩ ∧ Bd.Within A L ∧ roots.length ≤ k ∧ (kn = false → bad ≠ 0 ∧ bad ≠ 1 ∧ (bad < 2 ∨ 2 + (roots.length : Int) ≤ bad)) ∧ Below B w0 w ∧ (∀ j, y.own j → B ≤ j) ∧ B ≤ w.heap.size

theorem Refs.below {B : Nat} {w0 w w' : World} {tb bits k : Nat} {A : Bd.Fam bits 32} {bad : Int} {kn : Bool} (h : Refs B w0 w tb bits A bad k kn) (hb : Below w.heap.size w w') : Refs B w0 w' tb bits A bad k kn := by
  obtain ⟨y, L, roots, e, hT, hW, hl, hk, hb0, hy, hB⟩ := h.ex
  exact ⟨y, L, roots, e, hT.below hb, hW, hl, hk, hb0.trans (hb.mono hB), hy, Nat.le_trans hB hb.size⟩

theorem refs_new (w : World) (bits : Nat) (h1 : 1 ≤ bits) (h2 : bits ≤ 128) (A : Bd.Fam bits 32) (bad : Int) : Calls Try.prog 20 #[.int .i64 (bits : Int), .int .i64 1048576] w fun e w' => ∃ tb, e = .returned (.tuple #[.pointer (some ⟨tb, 0, none⟩), .int .i64 0]) ∧ ∀ kn, (kn = false → bad ≠ 0 ∧ bad ≠ 1) → Refs w.heap.size w w' tb bits A bad 0 kn := by
  refine (New_ok w bits 1048576 h1 h2 (Nat.le_refl _)).mono ?_
  rintro e w' ⟨y, rfl, hT, hb, hy⟩
  refine ⟨y.tb, rfl, fun kn hkn => ⟨y, [], [], rfl, hT, Bd.within_nil _, Nat.le_refl _, fun h => ⟨(hkn h).1, (hkn h).2, ?_⟩, hb, hy, hb.size⟩⟩
  show bad < 2 ∨ 2 + ((0 : Nat) : Int) ≤ bad
  omega

set_option maxHeartbeats 1000000 in
theorem refs_cube {B : Nat} {w0 w : World} {tb bits k : Nat} {ss : List ByteArray} {bad : Int} {kn : Bool} (h1 : bits ≤ 128) (h : Refs B w0 w tb bits (refFam bits ss) bad k kn) (hk : k < 30) (hks : k < ss.length) :
    Calls Try.prog 22 #[.pointer (some ⟨tb, 0, none⟩), .string (ss.getD k ByteArray.empty)] w fun e w' =>
      (∃ r : Nat, e = .returned (.tuple #[.int .i64 r, .int .i64 0]) ∧ ∀ kn', (kn' = false → kn = false ∧ (r : Int) ≠ bad) → Refs B w0 w' tb bits (refFam bits ss) bad (k + 1) kn') ∨
      (e = .returned (.tuple #[.int .i64 0, .int .i64 21]) ∧ Refs B w0 w' tb bits (refFam bits ss) bad (k + 1) kn) := by
  have more : ∀ w', Refs B w0 w' tb bits (refFam bits ss) bad k kn → Refs B w0 w' tb bits (refFam bits ss) bad (k + 1) kn := by
    intro w' h'
    obtain ⟨y, L, roots, e, hT, hW, hl, hkn, hb0, hy, hB⟩ := h'.ex
    exact ⟨y, L, roots, e, hT, hW, by omega, hkn, hb0, hy, hB⟩
  have h0 := h
  obtain ⟨y, L, roots, rfl, hT, hW, hl, hkn, hb0, hy, hB⟩ := h.ex
  generalize ht : ss.getD k ByteArray.empty = t
  by_cases hsz : t.size = bits
  · cases hr : Cu.right t.data.toList
    · exact (Cube_text hT t hsz hr).mono fun e w' ⟨h1, h2⟩ => Or.inr ⟨h1, more w' (h0.below h2)⟩
    · have hin : t ∈ fitting bits ss := by
        unfold fitting
        rw [List.mem_filter]
        refine ⟨?_, by simpa using hsz⟩
        rw [← ht, List.getD_eq_getElem?_getD, List.getElem?_eq_getElem hks]
        refine List.mem_iff_getElem.2 ⟨k, by rw [List.length_take]; omega, ?_⟩
        rw [List.getElem_take]; rfl
      refine (Cube_ok (s := ⟨L, roots, 2, bits, 1048576⟩) (refFam bits ss) hT hW (Nat.le_refl _) (by show roots.length + 1 ≤ _; omega) (by show bits * 32 ≤ 1048576; omega) t hsz hr (Or.inl ⟨t, hin, rfl⟩)).mono ?_
      rintro e w' ⟨r, rfl, ⟨N, t', y', m, hT', hW', hn, hm, hd, hmv, ha⟩⟩
      refine Or.inl ⟨r, rfl, fun kn' hkn' => ?_⟩
      obtain ⟨hb', hy'⟩ := moves_out hb0 hB hy hmv
      refine ⟨y', L ++ N, roots ++ t', hmv.tb, hT', hW', by rw [List.length_append]; have := ha.few; omega, fun hf => ?_, hb', hy', Nat.le_trans hB hmv.size⟩
      obtain ⟨hf1, hf2⟩ := hkn' hf
      obtain ⟨k0, k1, k2⟩ := hkn hf1
      refine ⟨k0, k1, ?_⟩
      rcases ha with e | ⟨e1, e2⟩
      · rw [e, List.append_nil]; exact k2
      · have e2' : r = 2 + roots.length := e2
        rw [List.length_append, e1]
        omega
  · exact (Cube_size hT t hsz).mono fun e w' ⟨h1, h2⟩ => Or.inr ⟨h1, more w' (h0.below h2)⟩

/-- The law's table, as it is asked for a ref that it never told. -/
structure Asked (B : Nat) (w0 w : World) (tb n : Nat) (bad : Int) : Prop where
  ex : ∃ y s, y.tb = tb ∧ Tab w y s ∧ s.L.length = n ∧ Bad s bad ∧ Below B w0 w ∧ B ≤ w.heap.size
theorem Asked.below {B : Nat} {w0 w w' : World} {tb n : Nat} {bad : Int} (h : Asked B w0 w tb n bad) (hb : Below w.heap.size w w') : Asked B w0 w' tb n bad := by
  obtain ⟨y, s, e, hT, hn, hB, hb0, hs⟩ := h.ex
  exact ⟨y, s, e, hT.below hb, hn, hB, hb0.trans (hb.mono hs), Nat.le_trans hs hb.size⟩
theorem Asked.size {B : Nat} {w0 w : World} {tb n : Nat} {bad : Int} (h : Asked B w0 w tb n bad) : Calls Try.prog 13 #[.pointer (some ⟨tb, 0, none⟩)] w fun e w' => e = .returned (.int .i64 n) ∧ w' = w := by
  obtain ⟨y, s, rfl, hT, rfl, _⟩ := h.ex
  exact Size_ok hT
theorem Asked.ans {B : Nat} {w0 w : World} {tb n : Nat} {bad : Int} (h : Asked B w0 w tb n bad) (v : Value) (xs : List Int) (p : Nat) (hI : IntsAt w v xs) (hF : FirstBad xs p bad) : AnsErr w (.pointer (some ⟨tb, 0, none⟩)) v 22 := by
  obtain ⟨y, s, rfl, hT, rfl, hB, _⟩ := h.ex
  exact answer_bad hT v xs p bad hI hF hB
theorem Asked.ite {B : Nat} {w0 w : World} {tb n : Nat} {bad : Int} (h : Asked B w0 w tb n bad) (x y z : Int) (p : Nat) (hF : FirstBad [x, y, z] p bad) : IteErr w (some ⟨tb, 0, none⟩) x y z 22 :=
  fun w1 hb => ((h.below hb).below ((Below.refl _ _).alloc (Nat.le_refl _) _)).ans _ [x, y, z] p (ints_new w1 [x, y, z]) hF
theorem Asked.root {B : Nat} {w0 w : World} {tb n : Nat} {bad : Int} (h : Asked B w0 w tb n bad) : RootErr w (.pointer (some ⟨tb, 0, none⟩)) (.int .i64 bad) 22 := by
  obtain ⟨y, s, rfl, hT, rfl, hB, _⟩ := h.ex
  exact root_bad hT bad hB
theorem Refs.asked {B : Nat} {w0 w : World} {tb bits k : Nat} {A : Bd.Fam bits 32} {bad : Int} (h : Refs B w0 w tb bits A bad k false) (hw : bad ≤ 9223372036854775807) : ∃ n, Asked B w0 w tb n bad := by
  obtain ⟨y, L, roots, e, hT, hW, hl, hk, hb0, hy, hB⟩ := h.ex
  obtain ⟨k0, k1, k2⟩ := hk rfl
  exact ⟨L.length, y, _, e, hT, rfl, ⟨k0, k1, k2, hw⟩, hb0, hB⟩
theorem first_bad0 (bad x : Int) : FirstBad [bad, x] 0 bad := ⟨by simp, rfl, fun i _ hi => by omega⟩
theorem first_bad1 (bad x : Int) (hx : x = 0 ∨ x = 1) : FirstBad [x, bad] 1 bad := ⟨by simp, rfl, fun i y hi h => by
  have : i = 0 := by omega
  subst this
  simp at h
  subst h
  exact hx⟩
theorem first_bad3 (bad x y : Int) : FirstBad [bad, x, y] 0 bad := ⟨by simp, rfl, fun i _ hi => by omega⟩
theorem first_bad4 (bad x z : Int) (hx : x = 0 ∨ x = 1) : FirstBad [x, bad, z] 1 bad := ⟨by simp, rfl, fun i y hi h => by
  have : i = 0 := by omega
  subst this
  simp at h
  subst h
  exact hx⟩
end Go.Proofs.Ytnkipdlfpnmgeaa
namespace Go.Proofs.Ytnkipdlfpnmgeaa
open Go.RowKit Go.Maps
open Bd (Nd)

theorem Try.infoRef : (Try.prog.info? 25).map (fun i => (i.zero, i.size, i.bytes)) = some (some (.int .i64 0), 1, 8) := by kernel_rfl

/-- The table and the refs of the first k cubes. -/
structure Made {nb M : Nat} (A : Bd.Fam nb M) (B : Nat) (w0 w : World) (tb : Nat) (ss : List ByteArray) (k : Nat) (v : Value) (y : Lay) (L : List Nd) (roots ls ns : List Nat) : Prop where
  tb : y.tb = tb
  tab : Tab w y ⟨L, roots, 2, nb, 1048576⟩
  within : Bd.Within A L
  few : roots.length ≤ k
  below : Below B w0 w
  own : ∀ j, y.own j → B ≤ j
  size : B ≤ w.heap.size
  len : ls.length = k
  row : w.ownsRow 0 25 1 v k (nums ls)
  apart : ∀ g, v.ownBlock = some g → B ≤ g ∧ ¬ y.own g
  nodes : NodesOf ⟨L, roots, 2, nb, 1048576⟩ ls ns
  den : ∀ i m, ns[i]? = some m → m < L.length + 2 ∧ Bd.den L m = suf (ss.getD i ByteArray.empty) 0
  right : ∀ i, i < k → (ss.getD i ByteArray.empty).size = nb ∧ Cu.right (ss.getD i ByteArray.empty).data.toList = true

/-- .. and the ref of the next cube, not yet among them. -/
structure MadeR {nb M : Nat} (A : Bd.Fam nb M) (B : Nat) (w0 w : World) (tb : Nat) (ss : List ByteArray) (k : Nat) (v : Value) (r : Nat) : Prop where
  ex : ∃ y L roots ls ns m, y.tb = tb ∧ Tab w y ⟨L, roots, 2, nb, 1048576⟩ ∧ Bd.Within A L ∧ roots.length ≤ k + 1 ∧ Below B w0 w ∧ (∀ j, y.own j → B ≤ j) ∧ B ≤ w.heap.size ∧ ls.length = k ∧ w.ownsRow 0 25 1 v k (nums ls) ∧ (∀ g, v.ownBlock = some g → B ≤ g ∧ ¬ y.own g) ∧
    NodesOf ⟨L, roots, 2, nb, 1048576⟩ (ls ++ [r]) (ns ++ [m]) ∧ ns.length = k ∧ (∀ i m', (ns ++ [m])[i]? = some m' → m' < L.length + 2 ∧ Bd.den L m' = suf (ss.getD i ByteArray.empty) 0) ∧ (∀ i, i < k + 1 → (ss.getD i ByteArray.empty).size = nb ∧ Cu.right (ss.getD i ByteArray.empty).data.toList = true)

set_option maxHeartbeats 1000000 in
theorem made_cube {nb M : Nat} {A : Bd.Fam nb M} {B : Nat} {w0 w : World} {tb k : Nat} {ss : List ByteArray} {v : Value} {y : Lay} {L : List Nd} {roots ls ns : List Nat} (h : Made A B w0 w tb ss k v y L roots ls ns) (hk : k ≤ 1000000) (hlim : nb * M ≤ 1048576)
    (hA : (ss.getD k ByteArray.empty).size = nb → Cu.right (ss.getD k ByteArray.empty).data.toList = true → A.F 0 (suf (ss.getD k ByteArray.empty) 0)) :
    Calls Try.prog 22 #[.pointer (some ⟨tb, 0, none⟩), .string (ss.getD k ByteArray.empty)] w fun e w' =>
      (∃ r : Nat, e = .returned (.tuple #[.int .i64 r, .int .i64 0]) ∧ MadeR A B w0 w' tb ss k v r) ∨ (e = .returned (.tuple #[.int .i64 0, .int .i64 21]) ∧ Below B w0 w') := by
  obtain ⟨rfl, hT, hW, hf, hb, hy, hB, hl, hrow, hap, hN, hd, hr⟩ := h
  by_cases hsz : (ss.getD k ByteArray.empty).size = nb
  · cases hrt : Cu.right (ss.getD k ByteArray.empty).data.toList
    · exact (Cube_text hT _ hsz hrt).mono fun e w' ⟨h1, h2⟩ => Or.inr ⟨h1, hb.trans (h2.mono hB)⟩
    · refine (Cube_ok (s := ⟨L, roots, 2, nb, 1048576⟩) A hT hW (Nat.le_refl _) (by show roots.length + 1 ≤ _; omega) hlim _ hsz hrt (hA hsz hrt)).mono ?_
      rintro e w' ⟨r, rfl, ⟨N, t', y', m, hT', hW', hn, hm, hdm, hmv, ha⟩⟩
      obtain ⟨hb', hy'⟩ := moves_out hb hB hy hmv
      have hnl : ns.length = k := by rw [hN.1, hl]
      refine Or.inl ⟨r, rfl, y', L ++ N, roots ++ t', ls, ns, m, hmv.tb, hT', hW', by rw [List.length_append]; have := ha.few; omega, hb', hy', Nat.le_trans hB hmv.size, hl, ?_, ?_, ?_, hnl, ?_, ?_⟩
      · exact row_same hrow fun g hg => hmv.block g (hrow.lt g hg).2 (hap g hg).2 (fun h => h)
      · intro g hg
        refine ⟨(hap g hg).1, fun ho => ?_⟩
        rcases hmv.own g ho with h | h
        · exact (hap g hg).2 h
        · have := (hrow.lt g hg).2; omega
      · refine ⟨by simp [hN.1], fun i q hi => ?_⟩
        rcases Nat.lt_or_ge i k with h | h
        · rw [List.getElem?_append_left (by omega)] at hi
          obtain ⟨m', h1, h2⟩ := hN.2 i q hi
          exact ⟨m', by rw [List.getElem?_append_left (by omega)]; exact h1, node_old h2 _ t'⟩
        · rw [List.getElem?_append_right (by omega), hl] at hi
          have h0 : i - k = 0 := by have := Bd.getElem?_lt hi; simp at this; exact this
          rw [h0] at hi
          simp at hi
          subst hi
          exact ⟨m, by rw [List.getElem?_append_right (by omega), hnl, h0]; rfl, hn⟩
      · intro i m' hi
        rcases Nat.lt_or_ge i k with h | h
        · rw [List.getElem?_append_left (by omega)] at hi
          obtain ⟨h1, h2⟩ := hd i m' hi
          exact ⟨by rw [List.length_append]; omega, by rw [Bd.den_append_old _ _ h1]; exact h2⟩
        · rw [List.getElem?_append_right (by omega), hnl] at hi
          have h0 : i - k = 0 := by have := Bd.getElem?_lt hi; simp at this; exact this
          rw [h0] at hi
          simp at hi
          subst hi
          have hik : i = k := by omega
          rw [hik]
          exact ⟨hm, hdm⟩
      · intro i hi
        rcases Nat.lt_or_ge i k with h | h
        · exact hr i h
        · have : i = k := by omega
          subst this
          exact ⟨hsz, hrt⟩
  · exact (Cube_size hT _ hsz).mono fun e w' ⟨h1, h2⟩ => Or.inr ⟨h1, hb.trans (h2.mono hB)⟩

theorem made_append {nb M : Nat} {A : Bd.Fam nb M} {B : Nat} {w0 w w1 : World} {tb k r g cap : Nat} {ss : List ByteArray} {v : Value} {o : Obj} {ls : List Nat} (h : ∃ y L roots ns m, y.tb = tb ∧ Tab w y ⟨L, roots, 2, nb, 1048576⟩ ∧ Bd.Within A L ∧ roots.length ≤ k + 1 ∧ Below B w0 w ∧ (∀ j, y.own j → B ≤ j) ∧ B ≤ w.heap.size ∧ ls.length = k ∧ w.ownsRow 0 25 1 v k (nums ls) ∧ (∀ g, v.ownBlock = some g → B ≤ g ∧ ¬ y.own g) ∧
    NodesOf ⟨L, roots, 2, nb, 1048576⟩ (ls ++ [r]) (ns ++ [m]) ∧ ns.length = k ∧ (∀ i m', (ns ++ [m])[i]? = some m' → m' < L.length + 2 ∧ Bd.den L m' = suf (ss.getD i ByteArray.empty) 0) ∧ (∀ i, i < k + 1 → (ss.getD i ByteArray.empty).size = nb ∧ Cu.right (ss.getD i ByteArray.empty).data.toList = true))
    (hown : w1.ownsRow 0 25 1 (.slice (some ⟨g, 0, none⟩) (k + 1) cap) (k + 1) (nums ls ++ [i6 r])) (hg : (w.alloc o).grownBy w1 v.ownBlock) (hat : v.ownBlock = some g ∨ g = w.heap.size + 1) :
    ∃ y L roots ls ns, Made A B w0 w1 tb ss (k + 1) (.slice (some ⟨g, 0, none⟩) (k + 1) cap) y L roots ls ns := by
  obtain ⟨y, L, roots, ns, m, e, hT, hW, hf, hb, hy, hB, hl, hrow, hap, hN, hnl, hd, hr⟩ := h
  have old : ∀ j, j < w.heap.size → v.ownBlock ≠ some j → w1.heap[j]? = w.heap[j]? := by
    intro j hj hne
    rw [hg.block j (by simp; omega) (fun e => hne e.symm)]
    exact heap_alloc_old w o hj
  have z : w.heap.size + 1 ≤ w1.heap.size := by have := hg.size; simpa using this
  refine ⟨y, L, roots, ls ++ [r], ns ++ [m], e, hT.same (fun j hj => old j (hT.lt hj) (fun h => (hap j h).2 hj)), hW, hf, ?_, hy, by omega, by simp [hl], ?_, ?_, hN, hd, hr⟩
  · refine ⟨hg.os.trans hb.os, hg.tape.trans hb.tape, hg.output.trans hb.output, Nat.le_trans hb.size (by omega), fun j hj => ?_⟩
    rw [old j (by omega) (fun h => by have := (hap j h).1; omega)]
    exact hb.block j hj
  · rw [nums_snoc]; exact hown
  · intro g' hg'
    have : g' = g := (Option.some.inj hg').symm
    subst this
    rcases hat with h | h
    · exact hap _ h
    · exact ⟨by omega, fun ho => by have := hT.lt ho; omega⟩

theorem made_new (w : World) (nb : Nat) (h1 : 1 ≤ nb) (h2 : nb ≤ 128) {M : Nat} (A : Bd.Fam nb M) (ss : List ByteArray) : Calls Try.prog 20 #[.int .i64 (nb : Int), .int .i64 1048576] w fun e w' => ∃ tb, e = .returned (.tuple #[.pointer (some ⟨tb, 0, none⟩), .int .i64 0]) ∧ ∃ y L roots ls ns, Made A w.heap.size w w' tb ss 0 (.slice none 0 0) y L roots ls ns := by
  refine (New_ok w nb 1048576 h1 h2 (Nat.le_refl _)).mono ?_
  rintro e w' ⟨y, rfl, hT, hb, hy⟩
  exact ⟨y.tb, rfl, y, [], [], [], [], rfl, hT, Bd.within_nil _, Nat.le_refl _, hb, hy, hb.size, rfl, World.ownsRow_nil _ _ _ _, (fun g hg => by cases hg), ⟨rfl, fun i r h => by simp at h⟩, (fun i m h => by simp at h), fun i h => by omega⟩
end Go.Proofs.Ytnkipdlfpnmgeaa
