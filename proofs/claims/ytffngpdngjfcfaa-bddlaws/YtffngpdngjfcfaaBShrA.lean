/-
  shrink: behind the first nodes, what one needs is left.
-/
import Derived.Test.YtffngpdngjfcfaaBDropA
import Derived.Test.YtffngpdngjfcfaaBOrd
namespace Go.Proofs.Ytffngpdngjfcfaa
open Go.RowKit Go.Maps
open Bd (Nd)

set_option maxHeartbeats 1000000 in
theorem name_at {w : World} {ob pb : Nat} {lv : Value} {least : Nat} {acc : List Nat} (hc : w.heap[ob]? = some (.cells #[lv, i6 least, .map (some pb)] 153 (0, 0))) (hp : ∃ f, MapOf Try.prog 3 3 w pb acc.length f ∧ RefMap least acc f) (m : Nat) (hm : m < 9223372036854775808) :
    Calls Try.prog 90 #[.pointer (some ⟨ob, 0, none⟩), i6 m] w fun e w' => e = .returned (i6 (nm acc least m)) ∧ w' = w := by
  have c2 : w.cell? ⟨ob, 2, none⟩ = some (.map (some pb)) := by rw [cell_at hc]; rfl
  obtain ⟨f, hf, hr⟩ := hp
  obtain ⟨kl, hkl⟩ := key_int (a := m) hm
  have hlook := MapOf.look hf kInt Try.underlying151 Try.underlying3 (zero_int _) hkl
  by_cases hin : m ∈ acc
  · have hfx : f (i6 m) = some ((least + acc.idxOf m : Nat) : Int) := (hr m).1 _ (idx_at hin)
    rw [hfx] at hlook
    simp only [Option.getD_some, Option.isSome_some, i6] at hlook
    have e : nm acc least m = least + acc.idxOf m := by unfold nm; rw [if_pos hin]
    rw [e]
    obtain ⟨q, hq⟩ : ∃ q, q = least + acc.idxOf m := ⟨_, rfl⟩
    rw [← hq] at hlook ⊢
    clear hc hf hr hfx hin hkl hq e
    go_enter Try.func90, Try.ntmps90
    go_wp2_with fail
    go_ret
    exact ⟨rfl, rfl⟩
  · have hfx : f (i6 m) = none := (hr m).2 hin
    rw [hfx] at hlook
    simp only [Option.getD_none, Option.isSome_none, i6] at hlook
    have e : nm acc least m = m := by unfold nm; rw [if_neg hin]
    rw [e]
    clear hc hf hr hfx hin hkl e
    go_enter Try.func90, Try.ntmps90
    go_wp2_with fail
    go_ret
    exact ⟨rfl, rfl⟩

set_option maxRecDepth 4000 in
set_option maxHeartbeats 1000000 in
theorem orderOf_any {w : World} {lv : Value} {L : List Nd} (hlist : w.ownsRow 0 82 3 lv L.length (flat L)) (hL : Falls L) (hlen : L.length ≤ 1073741824) (least n gv cap : Nat) (h2 : 2 ≤ least) (hle : least ≤ 1073741824) (hn : n < L.length + 2) (hg : gv < w.heap.size) (hc : w.cell? ⟨gv, 0, none⟩ = some (i6 n)) :
    Calls Try.prog 62 #[lv, i6 least, .slice (some ⟨gv, 0, none⟩) 1 cap] w fun e w' => e = .returned (.pointer (some ⟨w.heap.size + 1, 0, none⟩)) ∧ OrdAt w' (w.heap.size + 1) w.heap.size lv L least (vis L least (n + 1) n []) ∧ Below w.heap.size w w' := by
  have HO := keep (ord_new (least := least) hlist)
  have hmk := make_order
  have c1 : ((w.alloc (.map #[] 0)).alloc (.cells #[lv, i6 least, .map (some w.heap.size)] 153)).cell? ⟨gv, 0, none⟩ = some (i6 n) := by
    rw [World.cell?_of_block (heap_alloc_old _ _ (by simp; omega)), World.cell?_of_block (heap_alloc_old _ _ hg)]; exact hc
  obtain ⟨ao, cp, rfl⟩ : ∃ ao cp, lv = .slice ao L.length cp := by
    rcases hlist.2 with ⟨h1, h2⟩ | ⟨g, cp, cur, h1, _⟩
    · exact ⟨none, 0, by rw [h1, h2]⟩
    · exact ⟨_, _, h1⟩
  have HL := keep hL
  clear hlist hL
  go_enter Try.func62, Try.ntmps62
  go_wp2
  refine wp_loop_rounds 2 ?_
  rw [rounds_succ]
  go_wp2_with (go_at_call 89; refine (visit_any (w.heap.size + 1) w.heap.size _ L least HL.out hlen h2 hle (n + 1) n [] _ (by omega) hn HO.out (by simp) (by simp)).mono ?_; rintro e w1 ⟨rfl, hO1, hon⟩; have HO1 := keep hO1; have HON := keep hon; clear hO1 hon)
  rw [rounds_succ]
  go_wp2
  go_ret
  refine ⟨rfl, HO1.out, ?_⟩
  have b0 : Below w.heap.size w ((w.alloc (.map #[] 0)).alloc (.cells #[.slice ao L.length cp, i6 least, .map (some w.heap.size)] 153)) := ((Below.refl _ _).alloc (Nat.le_refl _) _).alloc (by simp) _
  have h := HON.out
  exact ⟨h.os.trans b0.os, h.tape.trans b0.tape, h.output.trans b0.output, Nat.le_trans b0.size h.size, fun k hk => (h.block k (Nat.lt_of_lt_of_le hk b0.size) (by omega)).trans (b0.block k hk)⟩

/-- What shrink leaves of a list. -/
structure Left (bits : Nat) (L : List Nd) (mark n : Nat) (M : List Nd) (r : Nat) : Prop where
  okay : Bd.Okay bits (L.take mark ++ M)
  lt : r < (L.take mark ++ M).length + 2
  den : Bd.den (L.take mark ++ M) r = Bd.den L n
  within : ∀ {K : Nat} (A : Bd.Fam bits K), Bd.Within A L → Bd.Within A (L.take mark ++ M)

theorem left_of {bits : Nat} {L : List Nd} (hL : Bd.Okay bits L) {mark n : Nat} (hm : mark ≤ L.length) (hn : n < L.length + 2) :
    Left bits L mark n ((vis L (mark + 2) (n + 1) n []).map (rn L (vis L (mark + 2) (n + 1) n []) (mark + 2))) (nm (vis L (mark + 2) (n + 1) n []) (mark + 2) n) := by
  have hlen : (L.take mark).length = mark := by rw [List.length_take]; omega
  have hnd := vis_nodup L (mark + 2) hL.falls (by omega) (n + 1) n [] hn (by simp)
  have hacc := vis_lt L (mark + 2) hL.falls (by omega) (n + 1) n [] hn (by simp)
  have hC := vis_closed L (mark + 2) hL.falls (by omega) (n + 1) n [] (by omega) hn (fun j m h => by simp at h)
  have hhas := vis_has L (mark + 2) (n + 1) n [] (by omega)
  generalize vis L (mark + 2) (n + 1) n [] = acc at hnd hacc hC hhas ⊢
  have S := shrunk_all hL hm hnd hacc hC acc.length (Nat.le_refl _)
  have et : (acc.map (rn L acc (mark + 2))).take acc.length = acc.map (rn L acc (mark + 2)) := List.take_of_length_le (by rw [List.length_map]; exact Nat.le_refl _)
  have sok := S.okay
  have sden := S.den
  rw [et] at sok sden
  have hold : ∀ m, m < mark + 2 → Bd.den (L.take mark ++ acc.map (rn L acc (mark + 2))) m = Bd.den L m := by
    intro m h
    rw [Bd.den_append_old _ _ (by omega)]
    exact den_take L mark (by omega)
  have hlen2 : (L.take mark ++ acc.map (rn L acc (mark + 2))).length = mark + acc.length := by rw [List.length_append, hlen, List.length_map]
  refine ⟨sok, ?_, ?_, fun A hW i x hx => ?_⟩
  · unfold nm
    by_cases hin : n ∈ acc
    · rw [if_pos hin, hlen2]
      have := List.idxOf_lt_length_of_mem hin
      omega
    · rw [if_neg hin, hlen2]
      rcases hhas with h | h
      · omega
      · exact absurd h hin
  · unfold nm
    by_cases hin : n ∈ acc
    · rw [if_pos hin]
      exact sden _ n (List.idxOf_lt_length_of_mem hin) (idx_at hin)
    · rw [if_neg hin]
      rcases hhas with h | h
      · exact hold n h
      · exact absurd h hin
  · rcases Nat.lt_or_ge i mark with h | h
    · rw [hold _ (by omega)]
      rw [List.getElem?_append_left (by omega), List.getElem?_take_of_lt h] at hx
      exact hW i x hx
    · have hi := Bd.getElem?_lt hx
      rw [hlen2] at hi
      obtain ⟨m, hmj⟩ : ∃ m, acc[i - mark]? = some m := ⟨acc[i - mark]'(by omega), List.getElem?_eq_getElem _⟩
      rw [List.getElem?_append_right (by omega), hlen, List.getElem?_map, hmj] at hx
      have hxe : rn L acc (mark + 2) m = x := by simpa using hx
      have d := sden (i - mark) m (by omega) hmj
      rw [show mark + 2 + (i - mark) = i + 2 by omega] at d
      rw [d, ← hxe]
      obtain ⟨b1, b2⟩ := hacc m (List.mem_of_getElem? hmj)
      have hF := (hL.falls.at (n := m) (by omega) b2).2.2
      have := hW _ _ hF
      rw [show m - 2 + 2 = m by omega] at this
      exact this

set_option maxRecDepth 4000 in
set_option maxHeartbeats 2000000 in
theorem shrink_any {w : World} {y : Lay} {s : St} (hT : Tab w y s) (mark n : Nat) (hm : mark ≤ s.L.length) (hlen : s.L.length ≤ 268435456) (hr : ∀ m, m ∈ s.roots → m < mark + 2) (hn : n < s.L.length + 2) :
    Calls Try.prog 83 #[.pointer (some ⟨y.tb, 3, none⟩), i6 mark, i6 n] w fun e w' => ∃ r N, e = .returned (i6 r) ∧ Left s.bits s.L mark n N r ∧ ∃ y', Tab w' y' { s with L := s.L.take mark ++ N } ∧ Moves noX w y w' y' := by
  have HLEFT := keep (left_of hT.okay hm hn)
  have hnd := vis_nodup s.L (mark + 2) hT.okay.falls (by omega) (n + 1) n [] hn (by simp)
  have hacc := vis_lt s.L (mark + 2) hT.okay.falls (by omega) (n + 1) n [] hn (by simp)
  have hal : (vis s.L (mark + 2) (n + 1) n []).length ≤ s.L.length + 2 := by
    have := List.Nodup.length_le_of_subset (l₂ := List.range (s.L.length + 2)) hnd (fun m hm => List.mem_range.2 (hacc m hm).2)
    simpa using this
  have HT := keep hT
  obtain ⟨ao, cap, hls⟩ := hT.list_slice
  have c3 := hT.cell3
  rw [hls] at c3
  have b1 : Below w.heap.size w (w.alloc (.cells #[i6 n] 3)) := (Below.refl _ _).alloc (Nat.le_refl _) _
  have e1 : (w.alloc (.cells #[i6 n] 3)).heap.size = w.heap.size + 1 := by simp
  -- the four calls behind one another
  have Q1 : Hid (Calls Try.prog 62 #[.slice ao s.L.length cap, .int .i64 ((mark : Int) + 2), .slice (some ⟨w.heap.size, 0, none⟩) 1 1] (w.alloc (.cells #[i6 n] 3)) fun e w1 => e = .returned (.pointer (some ⟨w.heap.size + 1 + 1, 0, none⟩)) ∧
      Hid (Calls Try.prog 63 #[.pointer (some ⟨w.heap.size + 1 + 1, 0, none⟩)] w1 fun e w2 => ∃ lv, e = .returned lv ∧
      Hid (Calls Try.prog 81 #[.pointer (some ⟨y.tb, 3, none⟩), i6 mark] w2 fun e w3 => e = .returned (.tuple #[]) ∧
      Hid (Calls Try.prog 40 #[.pointer (some ⟨y.tb, 3, none⟩), lv] w3 fun e w4 => e = .returned (.tuple #[]) ∧
      Hid (Calls Try.prog 90 #[.pointer (some ⟨w.heap.size + 1 + 1, 0, none⟩), i6 n] w4 fun e w5 => e = .returned (i6 (nm (vis s.L (mark + 2) (n + 1) n []) (mark + 2) n)) ∧
        Hid (∃ y', Tab w5 y' { s with L := s.L.take mark ++ ((vis s.L (mark + 2) (n + 1) n []).map (rn s.L (vis s.L (mark + 2) (n + 1) n []) (mark + 2))) } ∧ Moves noX w y w5 y')))))) := by
    have hT1 := hT.below b1
    have hl1 := hT1.list
    rw [hls] at hl1
    have h := orderOf_any hl1 hT.okay.falls (by omega) (mark + 2) n w.heap.size 1 (by omega) (by omega) hn (by omega) (by rw [cell_at (heap_alloc_new w _)]; rfl)
    rw [e1] at h
    have e2 : (i6 (mark + 2) : Value) = .int .i64 ((mark : Int) + 2) := by simp [i6]
    rw [e2] at h
    refine h.mono ?_
    rintro e w1 ⟨rfl, hO, hb1⟩
    refine ⟨rfl, ?_⟩
    refine (nodes_any hO hnd hacc (by omega) hT.okay.falls (by omega) (by omega) (by omega)).mono ?_
    rintro e w2 ⟨rfl, hown, hb2⟩
    refine ⟨_, rfl, ?_⟩
    have z1 := hb1.size
    have z2 := hb2.size
    have hbw1 : Below w.heap.size w w1 := b1.trans (hb1.mono (by omega))
    have hbw2 : Below w.heap.size w w2 := hbw1.trans (hb2.mono (by omega))
    have hT2 := hT.below hbw2
    have lown : ∀ k, y.own k → k < w.heap.size := fun k hk => hT.lt hk
    refine (drop_any hT2 mark hm hr).mono ?_
    rintro e w3 ⟨rfl, y3, hT3, hm3⟩
    refine ⟨rfl, ?_⟩
    have own3 : ∀ k, y3.own k → k < w.heap.size ∨ w2.heap.size ≤ k := fun k hk => by
      rcases hm3.own k hk with h | h
      · exact Or.inl (lown k h)
      · exact Or.inr h
    have z3 := hm3.size
    have kept3 : ∀ k, w.heap.size ≤ k → k < w2.heap.size → w3.heap[k]? = w2.heap[k]? := fun k h1 h2 => hm3.block k h2 (fun ho => by have := lown k ho; omega) (fun h => h)
    have hl3 := hown.lt w1.heap.size rfl
    have hlput : (s.L.take mark ++ ((vis s.L (mark + 2) (n + 1) n []).map (rn s.L (vis s.L (mark + 2) (n + 1) n []) (mark + 2)))).length ≤ 1073741824 := by
      rw [List.length_append, List.length_take, List.length_map]; omega
    have hgw : ∀ g a b, (Value.slice (some ⟨w1.heap.size, 0, none⟩) a b).ownBlock = some g → g = w1.heap.size := fun g a b h => (Option.some.inj h).symm
    have hown3 := row_same (w' := w3) hown fun g hg => kept3 g (by rw [hgw _ _ _ hg]; omega) (by rw [hgw _ _ _ hg]; exact hl3.2)
    rw [← hm3.tb]
    refine (put_any hT3 _ _ (by rw [List.length_map]; exact hown3) (fun k hk ho => ?_) HLEFT.out.okay hlput).mono ?_
    · have e5 := hgw _ _ _ hk
      rcases own3 _ ho with h | h
      · omega
      · have := hl3.2; omega
    · rintro e w4 ⟨rfl, y4, hT4, hm4⟩
      refine ⟨rfl, ?_⟩
      have kept4 : ∀ k, w.heap.size ≤ k → k < w2.heap.size → w4.heap[k]? = w2.heap[k]? := fun k h1 h2 => (hm4.block k (by omega) (fun ho => by rcases own3 k ho with h | h <;> omega) (fun h => h)).trans (kept3 k h1 h2)
      obtain ⟨f, hf, hrf, _⟩ := hO.place
      have lf := hf.lt
      have lo := block_lt hO.cells
      have k2 : ∀ k, k < w1.heap.size → w.heap.size ≤ k → w4.heap[k]? = w1.heap[k]? := fun k h1 h2 => (kept4 k h2 (by omega)).trans (hb2.block k h1)
      refine (name_at ((k2 _ lo (by omega)).trans hO.cells) ⟨f, hf.same (k2 _ lf (by omega)), hrf⟩ n (by omega)).mono ?_
      rintro e w5 ⟨rfl, rfl⟩
      exact ⟨rfl, y4, hT4, (moves_below y hbw2).trans (hm3.trans hm4)⟩
  clear hT hnd hacc hal hr hls b1 e1 HT
  have hmI : (mark : Int) ≤ 1073741824 := by omega
  go_enter Try.func83, Try.ntmps83
  go_wp2_with fail
  refine Q1.out.mono ?_
  rintro e w1 ⟨rfl, Q2⟩
  clear Q1
  go_wp2_with fail
  refine Q2.out.mono ?_
  rintro e w2 ⟨lv, rfl, Q3⟩
  clear Q2
  go_wp2_with fail
  refine Q3.out.mono ?_
  rintro e w3 ⟨rfl, Q4⟩
  clear Q3
  go_wp2_with fail
  refine Q4.out.mono ?_
  rintro e w4 ⟨rfl, Q5⟩
  clear Q4
  go_wp2_with fail
  refine Q5.out.mono ?_
  rintro e w5 ⟨rfl, R⟩
  clear Q5
  go_wp2
  go_ret
  exact ⟨_, _, rfl, HLEFT.out, R.out⟩
end Go.Proofs.Ytffngpdngjfcfaa
