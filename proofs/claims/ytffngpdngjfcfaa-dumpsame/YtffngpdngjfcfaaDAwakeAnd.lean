/-
  The law DumpBack.
  awake: the bytes of a function that is known.
-/
import Derived.Test.YtffngpdngjfcfaaQIteAnd
import Derived.Test.YtffngpdngjfcfaaDReadAnd
namespace Go.Proofs.Ytffngpdngjfcfaa
open Go.RowKit Go.Maps
open Bd (Nd ff tt iteF)

def t11 : ByteArray := ⟨#[49, 49]⟩
theorem let11 : letB t11 2 = true := by decide
theorem made11 : madeF 2 [t11] (min 1 12) = suf t11 0 := by
  show madeF 2 [t11] (0 + 1) = _
  rw [madeF_succ]
  show (if letB t11 2 = true then iteF ff tt (suf t11 0) else ff) = _
  rw [if_pos let11, ite_ff_or]
theorem okay11 : Bd.Okay 2 [(1, 0, 1), (0, 0, 2)] := by
  have h0 := (Bd.Okay.nil (bits := 2) (by omega)).snoc (x := (1, 0, 1)) (by simp) (by simp) (by simp) (by simp) (by simp) (by simp [Bd.bitOf]) (by simp [Bd.bitOf])
  exact h0.snoc (x := (0, 0, 2)) (by simp) (by simp) (by simp) (by simp) (by simp) (by simp [Bd.bitOf]) (by simp [Bd.bitOf])
theorem den11 : Bd.den [(1, 0, 1), (0, 0, 2)] 3 = suf t11 0 := by
  have h1 := Bd.den_at okay11 (i := 1) (x := (0, 0, 2)) rfl
  have h0 := Bd.den_at okay11 (i := 0) (x := (1, 0, 1)) rfl
  have e2 : suf t11 2 = tt := suf_end t11
  rw [h1, h0, Bd.den_zero, Bd.den_one, suf_one (t := t11) (k := 0) (by decide) rfl, suf_one (t := t11) (k := 1) (by decide) rfl, e2]
theorem list11 {L : List Nd} {m : Nat} (hL : Bd.Okay 2 L) (hm : m < L.length + 2) (hd : Bd.den L m = suf t11 0) : listOf L m = [(1, 0, 1), (0, 0, 2)] := by
  rw [list_alike hL okay11 (n' := 3) ⟨hm, by simp, hd.trans den11.symm⟩]
  decide
theorem dump11 (r : Nat) : dumpB 2 [(1, 0, 1), (0, 0, 2)] r = [2, 0, 0, 0, 2, 1, 0, 0, 0, 0, 0, 0, 0, 1, 0, 0, 0, 0, 0, 0, 0, 0, 2] := by
  unfold dumpB
  rw [if_neg (by simp)]
  decide
theorem came11 (w : World) : Came (w.alloc (.cells #[.string t11] 9)) (some ⟨w.heap.size, 0, none⟩) 1 1 [t11] := by
  refine Or.inr ⟨_, rfl, Nat.le_refl _, by simp [maxLen], rfl, fun i hi => ?_, fun s hs => by simp at hs; subst hs; simp [maxLen, t11, ByteArray.size]⟩
  have e : i = 0 := by simp at hi; omega
  subst e
  rw [addr_add, cell_at (heap_alloc_new w _)]
  rfl

theorem made_11 (w : World) : Calls Try.prog 9 #[.int .i64 2, .int .i64 10, .slice (some ⟨w.heap.size, 0, none⟩) 1 1] (w.alloc (.cells #[.string t11] 9)) fun e w1 => ∃ tb qb a b : Nat, e = .returned (.tuple #[.pointer (some ⟨tb, 0, none⟩), .pointer (some ⟨qb, 0, none⟩), .int .i64 a, .int .i64 b, .bool true]) ∧ Below w.heap.size w w1 ∧
    Hid (Calls Try.prog 11 #[.pointer (some ⟨tb, 0, none⟩), .int .i64 a] w1 fun e w2 => ∃ g cap, e = .returned (.tuple #[.slice (some ⟨g, 0, none⟩) 23 cap, .int .i64 0]) ∧ Below w.heap.size w w2 ∧ Hid (w2.ownsRow 0 5 1 (.slice (some ⟨g, 0, none⟩) 23 cap) 23 (byts [2, 0, 0, 0, 2, 1, 0, 0, 0, 0, 0, 0, 0, 1, 0, 0, 0, 0, 0, 0, 0, 0, 2]))) := by
  have hA := orIn_fam (nb := 2) (c := 1) [t11] (fun t ht => by simp at ht; subst ht; rfl) (by simp) [t11] 12 (fun i hi hl => by
    cases i with
    | zero => simp
    | succ i =>
      have e : ([t11] : List ByteArray).getD (i + 1) ByteArray.empty = ByteArray.empty := by simp [List.getD_eq_getElem?_getD]
      rw [e] at hl
      exact absurd hl (by decide))
  refine (dmade_any (nb := 2) (M := 2 ^ 1) _ 10 _ 1 1 [t11] _ (came11 w) hA (by omega) (by omega) (by omega) (by omega) (by omega)).mono ?_
  rintro e w1 ⟨tb, qb, a, b, rfl, hM⟩
  rw [made11] at hM
  obtain ⟨y, L, roots, m, rfl, hT, hW, hK, hB, hy, f1, f2, f3⟩ := hM.ex
  have hb0 : Below w.heap.size w (w.alloc (.cells #[.string t11] 9)) := (Below.refl _ _).alloc (Nat.le_refl _) _
  have hB1 : Below w.heap.size w w1 := hb0.trans (hB.mono hb0.size)
  refine ⟨y.tb, qb, a, b, rfl, hB1, ?_⟩
  have hw := Write_ok hT (Nat.le_refl _) a m f1 f2
  refine hw.mono ?_
  rintro e w2 ⟨v, rfl, hrow, _, hb2⟩
  have hl : listOf L m = [(1, 0, 1), (0, 0, 2)] := list11 hT.okay f2 f3
  have e : dumpB 2 (listOf L m) a = [2, 0, 0, 0, 2, 1, 0, 0, 0, 0, 0, 0, 0, 1, 0, 0, 0, 0, 0, 0, 0, 0, 2] := by rw [hl]; exact dump11 a
  have hrow' : w2.ownsRow 0 5 1 v (dumpB 2 (listOf L m) a).length (byts (dumpB 2 (listOf L m) a)) := hrow
  rw [e] at hrow'
  obtain ⟨g, cap, rfl, _, _⟩ := hrow'.form (by simp)
  exact ⟨g, cap, rfl, hB1.trans (hb2.mono hB1.size), hrow'⟩

set_option maxRecDepth 4000 in
set_option maxHeartbeats 4000000 in
theorem dawake_any (w : World) : Calls Try.prog 10 #[] w fun e w' => e = .returned (.bool true) ∧ Below w.heap.size w w' := by
  have HM := keep (made_11 w)
  have et : t11 = ⟨#[49, 49]⟩ := rfl
  rw [et] at HM
  clear et
  go_enter Try.func10, Try.ntmps10
  go_wp2_with fail
  refine HM.out.mono ?_
  rintro e w1 ⟨tb, qb, a, b, rfl, hb1, HW⟩
  clear hb1 HM
  go_wp2_with fail
  refine HW.out.mono ?_
  rintro e w2 ⟨g, cap, rfl, hb2, HROW⟩
  have HB2 := keep hb2
  clear hb2 HW
  have hc1 : (convert 29 9 (.slice (some ⟨g, 0, none⟩) 23 cap)).run Try.prog w2 = .ok (.string ⟨#[2, 0, 0, 0, 2, 1, 0, 0, 0, 0, 0, 0, 0, 1, 0, 0, 0, 0, 0, 0, 0, 0, 2]⟩) w2 := byts_text (l := [2, 0, 0, 0, 2, 1, 0, 0, 0, 0, 0, 0, 0, 1, 0, 0, 0, 0, 0, 0, 0, 0, 2]) HROW.out
  have hc2 : (convert 29 9 (.slice (some ⟨w2.heap.size, 0, none⟩) 23 23)).run Try.prog (w2.alloc (.cells #[.int .u8 2, .int .u8 0, .int .u8 0, .int .u8 0, .int .u8 2, .int .u8 1, .int .u8 0, .int .u8 0, .int .u8 0, .int .u8 0, .int .u8 0, .int .u8 0, .int .u8 0, .int .u8 1, .int .u8 0, .int .u8 0, .int .u8 0, .int .u8 0, .int .u8 0, .int .u8 0, .int .u8 0, .int .u8 0, .int .u8 2] 5)) = .ok (.string ⟨#[2, 0, 0, 0, 2, 1, 0, 0, 0, 0, 0, 0, 0, 1, 0, 0, 0, 0, 0, 0, 0, 0, 2]⟩) (w2.alloc (.cells #[.int .u8 2, .int .u8 0, .int .u8 0, .int .u8 0, .int .u8 2, .int .u8 1, .int .u8 0, .int .u8 0, .int .u8 0, .int .u8 0, .int .u8 0, .int .u8 0, .int .u8 0, .int .u8 1, .int .u8 0, .int .u8 0, .int .u8 0, .int .u8 0, .int .u8 0, .int .u8 0, .int .u8 0, .int .u8 0, .int .u8 2] 5)) :=
    byts_text (l := [2, 0, 0, 0, 2, 1, 0, 0, 0, 0, 0, 0, 0, 1, 0, 0, 0, 0, 0, 0, 0, 0, 2]) (row_zero (World.ownsRow_lit (e := 5) (size := 1) w2 #[.int .u8 2, .int .u8 0, .int .u8 0, .int .u8 0, .int .u8 2, .int .u8 1, .int .u8 0, .int .u8 0, .int .u8 0, .int .u8 0, .int .u8 0, .int .u8 0, .int .u8 0, .int .u8 1, .int .u8 0, .int .u8 0, .int .u8 0, .int .u8 0, .int .u8 0, .int .u8 0, .int .u8 0, .int .u8 0, .int .u8 2] 23 (Nat.le_refl _) (by unfold maxLen; omega) rfl))
  go_wp2
  go_ret
  exact ⟨by simp, HB2.out.alloc HB2.out.size _⟩
end Go.Proofs.Ytffngpdngjfcfaa
namespace Go.Proofs.Ytffngpdngjfcfaa
open Go.RowKit Go.Maps
open Bd (Nd ff tt)

theorem dumpB_same {nb : Nat} {Q : List Nd} {r r' : Nat} (h : Q.length = 0 → r = r') : dumpB nb Q r = dumpB nb Q r' := by
  unfold dumpB
  by_cases e : Q.length = 0
  · rw [h e]
  · rw [if_neg e, if_neg e]
theorem dumpB_pos (nb : Nat) (Q : List Nd) (r : Nat) : 0 < (dumpB nb Q r).length := by unfold dumpB; rw [List.length_append, head_length]; omega
/-- Of an end: its ref is its number. -/
theorem end_ref {w : World} {y : Lay} {s : St} (hT : Tab w y s) {r m : Nat} (hn : s.node? r = some m) (hm : m < s.L.length + 2) (h0 : (listOf s.L m).length = 0) : r = m ∧ ((r = 0 ∧ Bd.den s.L m = ff) ∨ (r = 1 ∧ Bd.den s.L m = tt)) := by
  rcases Nat.lt_or_ge m 2 with h | h
  · have e : s.node? m = some m := by unfold St.node?; rw [if_pos h]
    have er := node_inj hT hn e
    refine ⟨er, ?_⟩
    subst er
    have : r = 0 ∨ r = 1 := by omega
    rcases this with rfl | rfl
    · exact Or.inl ⟨rfl, Bd.den_zero _⟩
    · exact Or.inr ⟨rfl, Bd.den_one _⟩
  · have := (list_last hT.okay h hm).1; omega

theorem back_chain {nb M : Nat} {A : Bd.Fam nb M} {W w1 : World} {tb a : Nat} {f : Bd.Fn} (h1 : 1 ≤ nb) (h2 : nb ≤ 128) (hlim : nb * M ≤ 1048576) (h : MadeEnd A 1048576 W w1 tb 24 a f) :
    Calls Try.prog 11 #[.pointer (some ⟨tb, 0, none⟩), .int .i64 a] w1 fun e w2 => ∃ g n cap : Nat, e = .returned (.tuple #[.slice (some ⟨g, 0, none⟩) n cap, .int .i64 0]) ∧
      Hid (Calls Try.prog 12 #[.pointer (some ⟨tb, 0, none⟩), .slice (some ⟨g, 0, none⟩) n cap] w2 fun e w3 => e = .returned (.tuple #[.int .i64 a, .int .i64 0, .int .i64 0]) ∧
        Hid (Calls Try.prog 13 #[.int .i64 nb, .int .i64 1048576] w3 fun e w4 => ∃ to : Nat, e = .returned (.tuple #[.pointer (some ⟨to, 0, none⟩), .int .i64 0]) ∧
          Hid (Calls Try.prog 12 #[.pointer (some ⟨to, 0, none⟩), .slice (some ⟨g, 0, none⟩) n cap] w4 fun e w5 => ∃ d : Nat, e = .returned (.tuple #[.int .i64 d, .int .i64 0, .int .i64 0]) ∧
            Hid (Calls Try.prog 11 #[.pointer (some ⟨to, 0, none⟩), .int .i64 d] w5 fun e w6 => ∃ g' cap' : Nat, e = .returned (.tuple #[.slice (some ⟨g', 0, none⟩) n cap', .int .i64 0]) ∧
              Hid (Below W.heap.size W w6 ∧ ∃ t : ByteArray, (convert 29 9 (.slice (some ⟨g, 0, none⟩) n cap)).run Try.prog w6 = .ok (.string t) w6 ∧ (convert 29 9 (.slice (some ⟨g', 0, none⟩) n cap')).run Try.prog w6 = .ok (.string t) w6))))) := by
  obtain ⟨y, L, roots, m, rfl, hT, hW, hK, hB, hy, f1, f2, f3⟩ := h.ex
  have hLi := listed_of hT.okay f2 hW hT.small.1
  have hfew : (listOf L m).length ≤ 1048576 := by
    have hok := (list_okay hT.okay f2).1
    have : (listOf L m).length ≤ nb * M := hLi.within.few hok
    omega
  refine (Write_ok (s := ⟨L, roots, 2, nb, 1048576⟩) hT (Nat.le_refl _) a m f1 f2).mono ?_
  rintro e w2 ⟨v, rfl, hrow, hvn, hb2⟩
  have hrow' : w2.ownsRow 0 5 1 v (dumpB nb (listOf L m) a).length (byts (dumpB nb (listOf L m) a)) := hrow
  obtain ⟨g, cap, rfl, _, _⟩ := hrow'.form (dumpB_pos _ _ _)
  have hgn := hvn g rfl
  refine ⟨g, _, cap, rfl, ?_⟩
  have hT2 := hT.below hb2
  have hB2 : Below W.heap.size W w2 := hB.trans (hb2.mono hB.size)
  have hre : (listOf L m).length = 0 → (a = 0 ∧ Bd.den L m = ff) ∨ (a = 1 ∧ Bd.den L m = tt) := fun h0 => (end_ref hT f1 f2 h0).2
  refine (Read_ok (s := ⟨L, roots, 2, nb, 1048576⟩) A hT2 hW (Nat.le_refl _) (by show roots.length + 1 ≤ _; omega) hlim _ (listOf L m) (Bd.den L m) a hLi hfew hre hrow').mono ?_
  rintro e w3 ⟨c, rfl, ht3⟩
  obtain ⟨N3, t3, y3, m3, hT3, hW3, n3, l3, d3, mv3, ad3⟩ := ht3.ex
  have hca : c = a := by
    have f1' := node_old f1 (L ++ N3) t3
    have f2' : m < (L ++ N3).length + 2 := by rw [List.length_append]; omega
    have e : m3 = m := Bd.canon hT3.okay l3 f2' (by rw [show Bd.den (L ++ N3) m3 = _ from d3, Bd.den_append_old _ _ f2])
    subst e
    exact node_inj hT3 n3 f1'
  subst hca
  refine ⟨rfl, ?_⟩
  obtain ⟨hB3, _⟩ := moves_out hB2 hB2.size hy mv3
  have hg2 : g < w2.heap.size := (hrow'.lt g rfl).2
  have hgy : ¬ y.own g := fun ho => by have := hT.lt ho; omega
  have hrow3 := row_same hrow' (w' := w3) fun g' hg' => by simp [Value.ownBlock] at hg'; subst hg'; exact mv3.block _ hg2 hgy (fun h => h)
  refine (New_ok w3 nb 1048576 h1 h2 (Nat.le_refl _)).mono ?_
  rintro e w4 ⟨y4, rfl, hT4, hb4, hy4⟩
  refine ⟨y4.tb, rfl, ?_⟩
  have hB4 : Below W.heap.size W w4 := hB3.trans (hb4.mono hB3.size)
  have hg3 : g < w3.heap.size := Nat.lt_of_lt_of_le hg2 mv3.size
  have hrow4 := row_same hrow3 (w' := w4) fun g' hg' => by simp [Value.ownBlock] at hg'; subst hg'; exact hb4.block _ hg3
  have hgy4 : ¬ y4.own g := fun ho => by have := hy4 g ho; omega
  have hy4W : ∀ k, y4.own k → W.heap.size ≤ k := fun k hk => Nat.le_trans hB3.size (hy4 k hk)
  refine (Read_ok (s := ⟨[], [], 2, nb, 1048576⟩) A hT4 (Bd.within_nil _) (Nat.le_refl _) (by show 0 + 1 ≤ _; omega) hlim _ (listOf L m) (Bd.den L m) c hLi hfew hre hrow4).mono ?_
  rintro e w5 ⟨d, rfl, ht5⟩
  obtain ⟨N5, t5, y5, m5, hT5, hW5, n5, l5, d5, mv5, ad5⟩ := ht5.ex
  refine ⟨d, rfl, ?_⟩
  obtain ⟨hB5, hy5⟩ := moves_out hB4 hB4.size hy4W mv5
  have hg4 : g < w4.heap.size := Nat.lt_of_lt_of_le hg3 hb4.size
  have hrow5 := row_same hrow4 (w' := w5) fun g' hg' => by simp [Value.ownBlock] at hg'; subst hg'; exact mv5.block _ hg4 hgy4 (fun h => h)
  have hw5 := Write_ok (s := ⟨[] ++ N5, [] ++ t5, 2, nb, 1048576⟩) hT5 (Nat.le_refl _) d m5 n5 l5
  rw [mv5.tb] at hw5
  refine hw5.mono ?_
  rintro e w6 ⟨v6, rfl, hrow6, _, hb6⟩
  have hl5 : listOf ([] ++ N5) m5 = listOf L m := list_alike hT5.okay hT.okay ⟨l5, f2, d5⟩
  have hdd : dumpB nb (listOf ([] ++ N5) m5) d = dumpB nb (listOf L m) c := by
    rw [hl5]
    refine dumpB_same fun h0 => ?_
    obtain ⟨e1, e2⟩ := end_ref hT5 n5 l5 (by rw [show (listOf _ m5) = listOf L m from hl5]; exact h0)
    have d5' : Bd.den ([] ++ N5) m5 = Bd.den L m := d5
    have hft : (ff : Bd.Fn) ≠ tt := fun e => by have := congrFun e (fun _ => false); cases this
    rcases e2 with ⟨x1, x2⟩ | ⟨x1, x2⟩ <;> rcases hre h0 with ⟨z1, z2⟩ | ⟨z1, z2⟩
    · omega
    · exact absurd ((show Bd.den ([] ++ N5) m5 = ff from x2).symm.trans (d5'.trans z2)) hft
    · exact absurd ((show Bd.den ([] ++ N5) m5 = tt from x2).symm.trans (d5'.trans z2)).symm hft
    · omega
  have hrow6' : w6.ownsRow 0 5 1 v6 (dumpB nb (listOf ([] ++ N5) m5) d).length (byts (dumpB nb (listOf ([] ++ N5) m5) d)) := hrow6
  rw [hdd] at hrow6'
  obtain ⟨g6, cap6, rfl, _, _⟩ := hrow6'.form (dumpB_pos _ _ _)
  refine ⟨g6, cap6, rfl, hB5.trans (hb6.mono hB5.size), ⟨(dumpB nb (listOf L m) c).toArray⟩, byts_text (w := w6) ?_, byts_text (w := w6) hrow6'⟩
  exact row_same hrow5 fun g' hg' => by
    simp [Value.ownBlock] at hg'
    subst hg'
    exact hb6.block _ (Nat.lt_of_lt_of_le hg4 mv5.size)

set_option maxRecDepth 4000 in
set_option maxHeartbeats 4000000 in
theorem dback_out (bits : Int) (hb : bits < 1 ∨ 128 < bits) (v : Value) (w : World) :
    Calls Try.prog 3 #[.int .i64 bits, v] w fun e w' => e = .returned (.bool true) ∧ Below w.heap.size w w' := by
  have HM := keep (dmade_bad bits hb v w)
  clear hb
  go_enter Try.func3, Try.ntmps3
  go_wp2_with fail
  refine HM.out.mono ?_
  rintro e w1 ⟨rfl, rfl⟩
  go_wp2_with fail
  refine (dawake_any _).mono ?_
  rintro e w2 ⟨rfl, hb2⟩
  have HB := keep hb2
  clear hb2
  go_wp2
  go_ret
  exact ⟨rfl, HB.out⟩

set_option maxRecDepth 4000 in
set_option maxHeartbeats 4000000 in
theorem dback_in (nb : Nat) (h1 : 1 ≤ nb) (h2 : nb ≤ 128) (a0 : Option Addr) (len cap : Nat) (ss : List ByteArray) (w : World) (hv : Came w a0 len cap ss) :
    Calls Try.prog 3 #[.int .i64 nb, .slice a0 len cap] w fun e w' => e = .returned (.bool true) ∧ Below w.heap.size w w' := by
  have hM4 : nb * 2 ^ 12 ≤ 524288 := by omega
  have HM := keep (dmade_any (orFam nb 12 (rights nb ss) (rights_size nb ss) (rights_few nb ss)) 1048576 a0 len cap ss w hv (orIn_rights nb ss) h1 h2 (by omega) (by omega) hM4)
  have HCH := keep (fun (W w1 : World) (tb a : Nat) (f : Bd.Fn) (h : MadeEnd (orFam nb 12 (rights nb ss) (rights_size nb ss) (rights_few nb ss)) 1048576 W w1 tb 24 a f) => back_chain h1 h2 (by omega) h)
  clear hv hM4
  go_enter Try.func3, Try.ntmps3
  go_wp2_with fail
  refine HM.out.mono ?_
  rintro e w1 ⟨tb, qb, a, b, rfl, hE⟩
  have HE := keep hE
  clear hE HM
  go_wp2_with fail
  refine (dawake_any w1).mono ?_
  rintro e w2 ⟨rfl, hb2⟩
  have HC1 : Hid (MadeEnd (orFam nb 12 (rights nb ss) (rights_size nb ss) (rights_few nb ss)) 1048576 w w2 tb 24 a (madeF nb ss (min len 12))) := by
    obtain ⟨y, L, roots, m, q1, q2, q3, q4, q5, q6⟩ := HE.out.ex
    exact ⟨y, L, roots, m, q1, q2.below hb2, q3, q4, q5.trans (hb2.mono q5.size), q6⟩
  have HW := keep (HCH.out w w2 tb a _ HC1.out)
  clear hb2 HE HC1 HCH
  go_wp2_with fail
  refine HW.out.mono ?_
  rintro e w3 ⟨g, n, cap3, rfl, HRD⟩
  clear HW
  go_wp2_with fail
  refine HRD.out.mono ?_
  rintro e w4 ⟨rfl, HNW⟩
  clear HRD
  go_wp2_with fail
  refine HNW.out.mono ?_
  rintro e w5 ⟨to, rfl, HRD⟩
  clear HNW
  have haa : ((a : Int) != (a : Int)) = false := by simp
  go_wp2_with fail
  refine HRD.out.mono ?_
  rintro e w6 ⟨d, rfl, HWR⟩
  clear HRD
  go_wp2_with fail
  refine HWR.out.mono ?_
  rintro e w7 ⟨g', cap7, rfl, HF⟩
  obtain ⟨t, hc1, hc2⟩ := HF.out.2
  have HB := keep HF.out.1
  clear HF HWR
  go_wp2
  go_ret
  exact ⟨by simp, HB.out⟩

theorem dback_any (bits : Int) (a0 : Option Addr) (len cap : Nat) (ss : List ByteArray) (w : World) (hv : Came w a0 len cap ss) :
    Calls Try.prog 3 #[.int .i64 bits, .slice a0 len cap] w fun e w' => e = .returned (.bool true) ∧ Below w.heap.size w w' := by
  by_cases h : 1 ≤ bits ∧ bits ≤ 128
  · obtain ⟨nb, rfl⟩ : ∃ nb : Nat, bits = (nb : Int) := ⟨bits.toNat, by omega⟩
    exact dback_in nb (by omega) (by omega) a0 len cap ss w hv
  · exact dback_out bits (by omega) _ w
end Go.Proofs.Ytffngpdngjfcfaa
