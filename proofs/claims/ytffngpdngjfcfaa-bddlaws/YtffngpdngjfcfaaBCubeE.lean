/-
  Cube of a text that is no cube of the table; New of bits that no table has; the functions of some cubes.
-/
import Derived.Test.YtffngpdngjfcfaaBTCubeA
namespace Go.Proofs.Ytffngpdngjfcfaa
open Go.RowKit Go.Maps
open Bd (Nd)

set_option maxHeartbeats 4000000 in
theorem Cube_size {w : World} {y : Lay} {s : St} (hT : Tab w y s) (t : ByteArray) (ht : t.size ≠ s.bits) :
    Calls Try.prog 25 #[.pointer (some ⟨y.tb, 0, none⟩), .string t] w fun e w' => e = .returned (.tuple #[.int .i64 0, .int .i64 21]) ∧ Below w.heap.size w w' := by
  have ltb := hT.lt y.own_tb
  obtain ⟨x0, x1, xb, xs⟩ := box2 w (.cells #[.pointer (some ⟨y.tb, 0, none⟩)] 23) (.cells #[.string t] 9)
  have hTa := hT.below xb
  have c5 : ((w.alloc (.cells #[.pointer (some ⟨y.tb, 0, none⟩)] 23)).alloc (.cells #[.string t] 9)).cell? ⟨y.tb, 5, none⟩ = some (.int .i64 s.bits) := by rw [cell_at hTa.cells]; rfl
  have HTA := keep hTa
  have XB := keep xb
  have hne : ((t.size : Int) != (s.bits : Int)) = true := by rw [bne_iff_ne]; omega
  clear hT hTa x0 x1 xb xs ht
  go_enter Try.func25, Try.ntmps25
  go_wp2_with (first | (go_at_call 57; refine (made_ok HTA.out).mono ?_; rintro e w' ⟨rfl, rfl⟩))
  go_quiet (fail)
  go_wp2
  go_ret2
  exact ⟨rfl, belowN XB.out _⟩

set_option maxHeartbeats 4000000 in
theorem Cube_text {w : World} {y : Lay} {s : St} (hT : Tab w y s) (t : ByteArray) (ht : t.size = s.bits) (hr : Cu.right t.data.toList = false) :
    Calls Try.prog 25 #[.pointer (some ⟨y.tb, 0, none⟩), .string t] w fun e w' => e = .returned (.tuple #[.int .i64 0, .int .i64 21]) ∧ Below w.heap.size w w' := by
  have ltb := hT.lt y.own_tb
  obtain ⟨x0, x1, xb, xs⟩ := box2 w (.cells #[.pointer (some ⟨y.tb, 0, none⟩)] 23) (.cells #[.string t] 9)
  have hTa := hT.below xb
  have hck := check_any t ((w.alloc (.cells #[.pointer (some ⟨y.tb, 0, none⟩)] 23)).alloc (.cells #[.string t] 9)).drew
  have e0 : chkE t = 10 := if_neg (by rw [hr]; simp)
  rw [e0] at hck
  have HCK : Hid (Calls Try.prog 58 #[.string t] ((w.alloc (.cells #[.pointer (some ⟨y.tb, 0, none⟩)] 23)).alloc (.cells #[.string t] 9)).drew fun e w1 => e = .returned (.int .i64 10) ∧ w1.cell? ⟨w.heap.size, 0, none⟩ = some (.pointer (some ⟨y.tb, 0, none⟩)) ∧ w1.cell? ⟨w.heap.size + 1, 0, none⟩ = some (.string t) ∧ w1.cell? ⟨y.tb, 5, none⟩ = some (.int .i64 s.bits) ∧
      Hid (Below w.heap.size w w1)) := by
    refine hck.mono ?_
    rintro e w1 ⟨rfl, hb1⟩
    have hb1' : Below (w.heap.size + 2) ((w.alloc (.cells #[.pointer (some ⟨y.tb, 0, none⟩)] 23)).alloc (.cells #[.string t] 9)) w1 := by
      rw [← xs]; exact ⟨hb1.os, hb1.tape, hb1.output, hb1.size, hb1.block⟩
    have y0 : w1.heap[w.heap.size]? = _ := (hb1'.block _ (by omega)).trans x0
    have y1 : w1.heap[w.heap.size + 1]? = _ := (hb1'.block _ (by omega)).trans x1
    have hbw : Below w.heap.size w w1 := xb.trans (hb1'.mono (by omega))
    have hT1 := hT.below hbw
    exact ⟨rfl, by rw [cell_at y0]; rfl, by rw [cell_at y1]; rfl, by rw [cell_at hT1.cells]; rfl, hbw⟩
  have c5 : ((w.alloc (.cells #[.pointer (some ⟨y.tb, 0, none⟩)] 23)).alloc (.cells #[.string t] 9)).cell? ⟨y.tb, 5, none⟩ = some (.int .i64 s.bits) := by rw [cell_at hTa.cells]; rfl
  have HTA := keep hTa
  have hne : ((t.size : Int) != (s.bits : Int)) = false := by rw [ht]; simp
  clear hT hr hck hTa x0 x1 xb xs e0 ht
  go_enter Try.func25, Try.ntmps25
  go_wp2_with (first | (go_at_call 57; refine (made_ok HTA.out).mono ?_; rintro e w' ⟨rfl, rfl⟩))
  go_region_held3 (fun w' => w'.cell? ⟨w.heap.size, 0, none⟩ = some (.pointer (some ⟨y.tb, 0, none⟩)) ∧ w'.cell? ⟨w.heap.size + 1, 0, none⟩ = some (.string t) ∧ w'.cell? ⟨y.tb, 5, none⟩ = some (.int .i64 s.bits)) (first | (go_keep; done) | exact ⟨q1, q2, q3⟩) (first | (go_at_call 58; refine HCK.out.mono ?_; rintro e w1 ⟨rfl, q1, q2, q3, HBW⟩))
  go_wp2
  go_ret2
  exact ⟨rfl, HBW.out⟩

set_option maxHeartbeats 400000 in
theorem New_err (w : World) (bits : Int) (hb : bits < 1 ∨ 128 < bits) : Calls Try.prog 13 #[.int .i64 bits, .int .i64 1048576] w fun e w' => e = .returned (.tuple #[.pointer none, .int .i64 1]) ∧ w' = w := by
  rcases hb with h | h
  · go_enter Try.func13, Try.ntmps13
    go_wp2
    go_ret2
    exact ⟨rfl, rfl⟩
  · have h1 : ¬ (bits < 1) := by omega
    go_enter Try.func13, Try.ntmps13
    go_wp2
    go_ret2
    exact ⟨rfl, rfl⟩

theorem suf_cof {t : ByteArray} {k : Nat} (hk : k < t.size) (b : Bool) : Bd.cof (suf t k) k b = suf t (k + 1) ∨ Bd.cof (suf t k) k b = Bd.ff := by
  by_cases h0 : t.data.toList.getD k 0 = 48
  · rw [suf_zero hk h0, Bd.cof_mux (suf_from t (k + 1)) (Bd.from_ff _)]
    cases b
    · exact Or.inl rfl
    · exact Or.inr rfl
  · by_cases h1 : t.data.toList.getD k 0 = 49
    · rw [suf_one hk h1, Bd.cof_mux (Bd.from_ff _) (suf_from t (k + 1))]
      cases b
      · exact Or.inr rfl
      · exact Or.inl rfl
    · rw [suf_free h0 h1, Bd.cof_from (suf_from t (k + 1))]
      exact Or.inl rfl

/-- What a table comes upon that makes some cubes. -/
def cubeFam (bits : Nat) (ts : List ByteArray) (hs : ∀ t, t ∈ ts → t.size = bits) (hl : ts.length ≤ 30) : Bd.Fam bits 32 where
  F k f := (∃ t, t ∈ ts ∧ f = suf t k) ∨ f = Bd.ff ∨ f = Bd.tt
  dep k f h := by
    rcases h with ⟨t, _, rfl⟩ | rfl | rfl
    · exact suf_from t k
    · exact Bd.from_ff _
    · exact Bd.from_tt _
  go k f b hk h := by
    rcases h with ⟨t, ht, rfl⟩ | rfl | rfl
    · rcases suf_cof (t := t) (k := k) (by rw [hs t ht]; exact hk) b with e | e
      · exact Or.inl ⟨t, ht, e⟩
      · exact Or.inr (Or.inl e)
    · exact Or.inr (Or.inl rfl)
    · exact Or.inr (Or.inr rfl)
  en k j := ((ts.map fun t => suf t k) ++ [Bd.ff, Bd.tt]).getD j Bd.ff
  all k f _ h := by
    have hm : f ∈ (ts.map fun t => suf t k) ++ [Bd.ff, Bd.tt] := by
      rw [List.mem_append]
      rcases h with ⟨t, ht, rfl⟩ | rfl | rfl
      · exact Or.inl (List.mem_map.2 ⟨t, ht, rfl⟩)
      · exact Or.inr List.mem_cons_self
      · exact Or.inr (List.mem_cons_of_mem _ List.mem_cons_self)
    obtain ⟨j, hj, e⟩ := List.mem_iff_getElem.1 hm
    refine ⟨j, ?_, ?_⟩
    · simp at hj; omega
    · rw [List.getD_eq_getElem?_getD, List.getElem?_eq_getElem hj, e]; rfl
end Go.Proofs.Ytffngpdngjfcfaa
