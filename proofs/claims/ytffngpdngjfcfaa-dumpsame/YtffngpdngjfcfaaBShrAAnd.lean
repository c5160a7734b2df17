/-
  answer, And, Or, Not, Diff, Ite where answer fails.
  And of some; Not, Diff; two refs of one function are one.
  And, Or of some; Ite, Not, Diff.
  fold in general.
  shrink: behind the first nodes, what one needs is left.
-/
import Derived.Test.YtffngpdngjfcfaaBCheckAnd
import Derived.Test.YtffngpdngjfcfaaBVisAnd
import Derived.Test.YtffngpdngjfcfaaReadAnd
import Derived.Test.YtffngpdngjfcfaaBNobodyAnd
namespace Go.Proofs.Ytffngpdngjfcfaa
open Go.RowKit Go.Maps
open Bd (Nd)

set_option maxHeartbeats 1000000 in
theorem name_at {w : World} {ob pb : Nat} {lv : Value} {least : Nat} {acc : List Nat} (hc : w.heap[ob]? = some (.cells #[lv, i6 least, .map (some pb)] 153 (0, 0))) (hp : ∃ f, MapOf Try.prog 3 3 w pb acc.length f ∧ RefMap least acc f) (m : Nat) (hm : m < 9223372036854775808) :
    Calls Try.prog 90 #[.pointer (some ⟨ob, 0, none⟩), i6 m] w fun e w' => e = .returned (i6 (nm acc least m)) ∧ w' = w := by
  have c2 : w.cell? ⟨ob, 2, none⟩ = some (.map (some pb)) := by rw [cell_at hc]; rfl
  obtain ⟨f, hf, hr⟩ := hp
  obtain ⟨kl, hkl⟩ := key_int (a := m) hm
  have hlook := MapOf.look hf kInt Try.underlying151 Try.underlying3 (zero_int _) hkl
  by_cases hin : m ∈ acc
  · have hfx : f (i6 m) = some ((least + acc.idxOf m : Nat) : Int) := (hr m).1 _ (idx_at hin)
    rw [hfx] at hlook
    simp only [Option.getD_some, Option.isSome_some, i6] at hlook
    have e : nm acc least m = least + acc.idxOf m := by unfold nm; rw [if_pos hin]
    rw [e]
    obtain ⟨q, hq⟩ : ∃ q, q = least + acc.idxOf m := ⟨_, rfl⟩
    rw [← hq] at hlook ⊢
    clear hc hf hr hfx hin hkl hq e
    go_enter Try.func90, Try.ntmps90
    go_wp2_with fail
    go_ret
    exact ⟨rfl, rfl⟩
  · have hfx : f (i6 m) = none := (hr m).2 hin
    rw [hfx] at hlook
    simp only [Option.getD_none, Option.isSome_none, i6] at hlook
    have e : nm acc least m = m := by unfold nm; rw [if_neg hin]
    rw [e]
    clear hc hf hr hfx hin hkl e
    go_enter Try.func90, Try.ntmps90
    go_wp2_with fail
    go_ret
    exact ⟨rfl, rfl⟩

set_option maxRecDepth 4000 in
set_option maxHeartbeats 1000000 in
theorem orderOf_any {w : World} {lv : Value} {L : List Nd} (hlist : w.ownsRow 0 82 3 lv L.length (flat L)) (hL : Falls L) (hlen : L.length ≤ 1073741824) (least n gv cap : Nat) (h2 : 2 ≤ least) (hle : least ≤ 1073741824) (hn : n < L.length + 2) (hg : gv < w.heap.size) (hc : w.cell? ⟨gv, 0, none⟩ = some (i6 n)) :
    Calls Try.prog 62 #[lv, i6 least, .slice (some ⟨gv, 0, none⟩) 1 cap] w fun e w' => e = .returned (.pointer (some ⟨w.heap.size + 1, 0, none⟩)) ∧ OrdAt w' (w.heap.size + 1) w.heap.size lv L least (vis L least (n + 1) n []) ∧ Below w.heap.size w w' := by
  have HO := keep (ord_new (least := least) hlist)
  have hmk := make_order
  have c1 : ((w.alloc (.map #[] 0)).alloc (.cells #[lv, i6 least, .map (some w.heap.size)] 153)).cell? ⟨gv, 0, none⟩ = some (i6 n) := by
    rw [World.cell?_of_block (heap_alloc_old _ _ (by simp; omega)), World.cell?_of_block (heap_alloc_old _ _ hg)]; exact hc
  obtain ⟨ao, cp, rfl⟩ : ∃ ao cp, lv = .slice ao L.length cp := by
    rcases hlist.2 with ⟨h1, h2⟩ | ⟨g, cp, cur, h1, _⟩
    · exact ⟨none, 0, by rw [h1, h2]⟩
    · exact ⟨_, _, h1⟩
  have HL := keep hL
  clear hlist hL
  go_enter Try.func62, Try.ntmps62
  go_wp2
  refine wp_loop_rounds 2 ?_
  rw [rounds_succ]
  go_wp2_with (go_at_call 89; refine (visit_any (w.heap.size + 1) w.heap.size _ L least HL.out hlen h2 hle (n + 1) n [] _ (by omega) hn HO.out (by simp) (by simp)).mono ?_; rintro e w1 ⟨rfl, hO1, hon⟩; have HO1 := keep hO1; have HON := keep hon; clear hO1 hon)
  rw [rounds_succ]
  go_wp2
  go_ret
  refine ⟨rfl, HO1.out, ?_⟩
  have b0 : Below w.heap.size w ((w.alloc (.map #[] 0)).alloc (.cells #[.slice ao L.length cp, i6 least, .map (some w.heap.size)] 153)) := ((Below.refl _ _).alloc (Nat.le_refl _) _).alloc (by simp) _
  have h := HON.out
  exact ⟨h.os.trans b0.os, h.tape.trans b0.tape, h.output.trans b0.output, Nat.le_trans b0.size h.size, fun k hk => (h.block k (Nat.lt_of_lt_of_le hk b0.size) (by omega)).trans (b0.block k hk)⟩

/-- What shrink leaves of a list. -/
structure Left (bits : Nat) (L : List Nd) (mark n : Nat) (M : List Nd) (r : Nat) : Prop where
  okay : Bd.Okay bits (L.take mark ++ M)
  lt : r < (L.take mark ++ M).length + 2
  den : Bd.den (L.take mark ++ M) r = Bd.den L n
  within : ∀ {K : Nat} (A : Bd.Fam bits K), Bd.Within A L → Bd.Within A (L.take mark ++ M)

theorem left_of {bits : Nat} {L : List Nd} (hL : Bd.Okay bits L) {mark n : Nat} (hm : mark ≤ L.length) (hn : n < L.length + 2) :
    Left bits L mark n ((vis L (mark + 2) (n + 1) n []).map (rn L (vis L (mark + 2) (n + 1) n []) (mark + 2))) (nm (vis L (mark + 2) (n + 1) n []) (mark + 2) n) := by
  have hlen : (L.take mark).length = mark := by rw [List.length_take]; omega
  have hnd := vis_nodup L (mark + 2) hL.falls (by omega) (n + 1) n [] hn (by simp)
  have hacc := vis_lt L (mark + 2) hL.falls (by omega) (n + 1) n [] hn (by simp)
  have hC := vis_closed L (mark + 2) hL.falls (by omega) (n + 1) n [] (by omega) hn (fun j m h => by simp at h)
  have hhas := vis_has L (mark + 2) (n + 1) n [] (by omega)
  generalize vis L (mark + 2) (n + 1) n [] = acc at hnd hacc hC hhas ⊢
  have S := shrunk_all hL hm hnd hacc hC acc.length (Nat.le_refl _)
  have et : (acc.map (rn L acc (mark + 2))).take acc.length = acc.map (rn L acc (mark + 2)) := List.take_of_length_le (by rw [List.length_map]; exact Nat.le_refl _)
  have sok := S.okay
  have sden := S.den
  rw [et] at sok sden
  have hold : ∀ m, m < mark + 2 → Bd.den (L.take mark ++ acc.map (rn L acc (mark + 2))) m = Bd.den L m := by
    intro m h
    rw [Bd.den_append_old _ _ (by omega)]
    exact den_take L mark (by omega)
  have hlen2 : (L.take mark ++ acc.map (rn L acc (mark + 2))).length = mark + acc.length := by rw [List.length_append, hlen, List.length_map]
  refine ⟨sok, ?_, ?_, fun A hW i x hx => ?_⟩
  · unfold nm
    by_cases hin : n ∈ acc
    · rw [if_pos hin, hlen2]
      have := List.idxOf_lt_length_of_mem hin
      omega
    · rw [if_neg hin, hlen2]
      rcases hhas with h | h
      · omega
      · exact absurd h hin
  · unfold nm
    by_cases hin : n ∈ acc
    · rw [if_pos hin]
      exact sden _ n (List.idxOf_lt_length_of_mem hin) (idx_at hin)
    · rw [if_neg hin]
      rcases hhas with h | h
      · exact hold n h
      · exact absurd h hin
  · rcases Nat.lt_or_ge i mark with h | h
    · rw [hold _ (by omega)]
      rw [List.getElem?_append_left (by omega), List.getElem?_take_of_lt h] at hx
      exact hW i x hx
    · have hi := Bd.getElem?_lt hx
      rw [hlen2] at hi
      obtain ⟨m, hmj⟩ : ∃ m, acc[i - mark]? = some m := ⟨acc[i - mark]'(by omega), List.getElem?_eq_getElem _⟩
      rw [List.getElem?_append_right (by omega), hlen, List.getElem?_map, hmj] at hx
      have hxe : rn L acc (mark + 2) m = x := by simpa using hx
      have d := sden (i - mark) m (by omega) hmj
      rw [show mark + 2 + (i - mark) = i + 2 by omega] at d
      rw [d, ← hxe]
      obtain ⟨b1, b2⟩ := hacc m (List.mem_of_getElem? hmj)
      have hF := (hL.falls.at (n := m) (by omega) b2).2.2
      have := hW _ _ hF
      rw [show m - 2 + 2 = m by omega] at this
      exact this

set_option maxRecDepth 4000 in
set_option maxHeartbeats 2000000 in
theorem shrink_any {w : World} {y : Lay} {s : St} (hT : Tab w y s) (mark n : Nat) (hm : mark ≤ s.L.length) (hlen : s.L.length ≤ 268435456) (hr : ∀ m, m ∈ s.roots → m < mark + 2) (hn : n < s.L.length + 2) :
    Calls Try.prog 83 #[.pointer (some ⟨y.tb, 3, none⟩), i6 mark, i6 n] w fun e w' => ∃ r N, e = .returned (i6 r) ∧ Left s.bits s.L mark n N r ∧ ∃ y', Tab w' y' { s with L := s.L.take mark ++ N } ∧ Moves noX w y w' y' := by
  have HLEFT := keep (left_of hT.okay hm hn)
  have hnd := vis_nodup s.L (mark + 2) hT.okay.falls (by omega) (n + 1) n [] hn (by simp)
  have hacc := vis_lt s.L (mark + 2) hT.okay.falls (by omega) (n + 1) n [] hn (by simp)
  have hal : (vis s.L (mark + 2) (n + 1) n []).length ≤ s.L.length + 2 := by
    have := List.Nodup.length_le_of_subset (l₂ := List.range (s.L.length + 2)) hnd (fun m hm => List.mem_range.2 (hacc m hm).2)
    simpa using this
  have HT := keep hT
  obtain ⟨ao, cap, hls⟩ := hT.list_slice
  have c3 := hT.cell3
  rw [hls] at c3
  have b1 : Below w.heap.size w (w.alloc (.cells #[i6 n] 3)) := (Below.refl _ _).alloc (Nat.le_refl _) _
  have e1 : (w.alloc (.cells #[i6 n] 3)).heap.size = w.heap.size + 1 := by simp
  -- the four calls behind one another
  have Q1 : Hid (Calls Try.prog 62 #[.slice ao s.L.length cap, .int .i64 ((mark : Int) + 2), .slice (some ⟨w.heap.size, 0, none⟩) 1 1] (w.alloc (.cells #[i6 n] 3)) fun e w1 => e = .returned (.pointer (some ⟨w.heap.size + 1 + 1, 0, none⟩)) ∧
      Hid (Calls Try.prog 63 #[.pointer (some ⟨w.heap.size + 1 + 1, 0, none⟩)] w1 fun e w2 => ∃ lv, e = .returned lv ∧
      Hid (Calls Try.prog 81 #[.pointer (some ⟨y.tb, 3, none⟩), i6 mark] w2 fun e w3 => e = .returned (.tuple #[]) ∧
      Hid (Calls Try.prog 40 #[.pointer (some ⟨y.tb, 3, none⟩), lv] w3 fun e w4 => e = .returned (.tuple #[]) ∧
      Hid (Calls Try.prog 90 #[.pointer (some ⟨w.heap.size + 1 + 1, 0, none⟩), i6 n] w4 fun e w5 => e = .returned (i6 (nm (vis s.L (mark + 2) (n + 1) n []) (mark + 2) n)) ∧
        Hid (∃ y', Tab w5 y' { s with L := s.L.take mark ++ ((vis s.L (mark + 2) (n + 1) n []).map (rn s.L (vis s.L (mark + 2) (n + 1) n []) (mark + 2))) } ∧ Moves noX w y w5 y')))))) := by
    have hT1 := hT.below b1
    have hl1 := hT1.list
    rw [hls] at hl1
    have h := orderOf_any hl1 hT.okay.falls (by omega) (mark + 2) n w.heap.size 1 (by omega) (by omega) hn (by omega) (by rw [cell_at (heap_alloc_new w _)]; rfl)
    rw [e1] at h
    have e2 : (i6 (mark + 2) : Value) = .int .i64 ((mark : Int) + 2) := by simp [i6]
    rw [e2] at h
    refine h.mono ?_
    rintro e w1 ⟨rfl, hO, hb1⟩
    refine ⟨rfl, ?_⟩
    refine (nodes_any hO hnd hacc (by omega) hT.okay.falls (by omega) (by omega) (by omega)).mono ?_
    rintro e w2 ⟨rfl, hown, hb2⟩
    refine ⟨_, rfl, ?_⟩
    have z1 := hb1.size
    have z2 := hb2.size
    have hbw1 : Below w.heap.size w w1 := b1.trans (hb1.mono (by omega))
    have hbw2 : Below w.heap.size w w2 := hbw1.trans (hb2.mono (by omega))
    have hT2 := hT.below hbw2
    have lown : ∀ k, y.own k → k < w.heap.size := fun k hk => hT.lt hk
    refine (drop_any hT2 mark hm hr).mono ?_
    rintro e w3 ⟨rfl, y3, hT3, hm3⟩
    refine ⟨rfl, ?_⟩
    have own3 : ∀ k, y3.own k → k < w.heap.size ∨ w2.heap.size ≤ k := fun k hk => by
      rcases hm3.own k hk with h | h
      · exact Or.inl (lown k h)
      · exact Or.inr h
    have z3 := hm3.size
    have kept3 : ∀ k, w.heap.size ≤ k → k < w2.heap.size → w3.heap[k]? = w2.heap[k]? := fun k h1 h2 => hm3.block k h2 (fun ho => by have := lown k ho; omega) (fun h => h)
    have hl3 := hown.lt w1.heap.size rfl
    have hlput : (s.L.take mark ++ ((vis s.L (mark + 2) (n + 1) n []).map (rn s.L (vis s.L (mark + 2) (n + 1) n []) (mark + 2)))).length ≤ 1073741824 := by
      rw [List.length_append, List.length_take, List.length_map]; omega
    have hgw : ∀ g a b, (Value.slice (some ⟨w1.heap.size, 0, none⟩) a b).ownBlock = some g → g = w1.heap.size := fun g a b h => (Option.some.inj h).symm
    have hown3 := row_same (w' := w3) hown fun g hg => kept3 g (by rw [hgw _ _ _ hg]; omega) (by rw [hgw _ _ _ hg]; exact hl3.2)
    rw [← hm3.tb]
    refine (put_any hT3 _ _ (by rw [List.length_map]; exact hown3) (fun k hk ho => ?_) HLEFT.out.okay hlput).mono ?_
    · have e5 := hgw _ _ _ hk
      rcases own3 _ ho with h | h
      · omega
      · have := hl3.2; omega
    · rintro e w4 ⟨rfl, y4, hT4, hm4⟩
      refine ⟨rfl, ?_⟩
      have kept4 : ∀ k, w.heap.size ≤ k → k < w2.heap.size → w4.heap[k]? = w2.heap[k]? := fun k h1 h2 => (hm4.block k (by omega) (fun ho => by rcases own3 k ho with h | h <;> omega) (fun h => h)).trans (kept3 k h1 h2)
      obtain ⟨f, hf, hrf, _⟩ := hO.place
      have lf := hf.lt
      have lo := block_lt hO.cells
      have k2 : ∀ k, k < w1.heap.size → w.heap.size ≤ k → w4.heap[k]? = w1.heap[k]? := fun k h1 h2 => (kept4 k h2 (by omega)).trans (hb2.block k h1)
      refine (name_at ((k2 _ lo (by omega)).trans hO.cells) ⟨f, hf.same (k2 _ lf (by omega)), hrf⟩ n (by omega)).mono ?_
      rintro e w5 ⟨rfl, rfl⟩
      exact ⟨rfl, y4, hT4, (moves_below y hbw2).trans (hm3.trans hm4)⟩
  clear hT hnd hacc hal hr hls b1 e1 HT
  have hmI : (mark : Int) ≤ 1073741824 := by omega
  go_enter Try.func83, Try.ntmps83
  go_wp2_with fail
  refine Q1.out.mono ?_
  rintro e w1 ⟨rfl, Q2⟩
  clear Q1
  go_wp2_with fail
  refine Q2.out.mono ?_
  rintro e w2 ⟨lv, rfl, Q3⟩
  clear Q2
  go_wp2_with fail
  refine Q3.out.mono ?_
  rintro e w3 ⟨rfl, Q4⟩
  clear Q3
  go_wp2_with fail
  refine Q4.out.mono ?_
  rintro e w4 ⟨rfl, Q5⟩
  clear Q4
  go_wp2_with fail
  refine Q5.out.mono ?_
  rintro e w5 ⟨rfl, R⟩
  clear Q5
  go_wp2
  go_ret
  exact ⟨_, _, rfl, HLEFT.out, R.out⟩
end Go.Proofs.Ytffngpdngjfcfaa
namespace Go.Proofs.Ytffngpdngjfcfaa
open Go.RowKit Go.Maps
open Bd (Nd)

/-- What a join means: a function of two. -/
structure Means (jn : Nat → Nat → Nat × Nat × Nat) (J : Bd.Fn → Bd.Fn → Bd.Fn) : Prop where
  lt : ∀ (L : List Nd) (a b : Nat), a < L.length + 2 → b < L.length + 2 → (jn a b).1 < L.length + 2 ∧ (jn a b).2.1 < L.length + 2 ∧ (jn a b).2.2 < L.length + 2
  den : ∀ (L : List Nd) (a b : Nat), Bd.iteF (Bd.den L (jn a b).1) (Bd.den L (jn a b).2.1) (Bd.den L (jn a b).2.2) = J (Bd.den L a) (Bd.den L b)

/-- A table in the midst of a fold. -/
structure Stands {bits M : Nat} (A : Bd.Fam bits M) (w : World) (y : Lay) (s : St) (w3 : World) (r : Nat) (f : Bd.Fn) : Prop where
  cell : ∃ ao len cap, w3.cell? ⟨y.tb, 3, none⟩ = some (.slice ao len cap) ∧ len ≤ 1048576 ∧ s.L.length ≤ len
  grew : Grew noX A w y s w3 r f

theorem stands_of {M : Nat} {w w3 : World} {y : Lay} {s : St} (A : Bd.Fam s.bits M) (hlim : s.bits * M ≤ s.limit) (hl : s.limit ≤ 1048576) {r : Nat} {f : Bd.Fn} (hG : Grew noX A w y s w3 r f) : Stands A w y s w3 r f := by
  refine ⟨?_, hG⟩
  obtain ⟨N, y', hT, hW, hr, hd, hm⟩ := hG.ex
  obtain ⟨ao, cap, hls⟩ := hT.list_slice
  have hfew := hW.few hT.okay
  refine ⟨ao, (s.L ++ N).length, cap, ?_, by omega, by rw [List.length_append]; omega⟩
  rw [← hm.tb, hT.cell3, hls]

theorem shrink_stands {M : Nat} {w w3 : World} {y : Lay} {s : St} (A : Bd.Fam s.bits M) (hT0 : Tab w y s) (hlim : s.bits * M ≤ s.limit) {r : Nat} {f : Bd.Fn} (hG : Grew noX A w y s w3 r f) (W : World) (hB : Below w3.heap.size w3 W) :
    Calls Try.prog 83 #[.pointer (some ⟨y.tb, 3, none⟩), i6 s.L.length, i6 r] W fun e w4 => ∃ r4, e = .returned (i6 r4) ∧ Stands A w y s w4 r4 f := by
  obtain ⟨N, y', hT, hW, hr, hd, hm⟩ := hG.ex
  have hsl := hT0.small
  have hfew := hW.few hT.okay
  have h := shrink_any (s := { s with L := s.L ++ N }) (hT.below hB) s.L.length r (by show _ ≤ (s.L ++ N).length; rw [List.length_append]; omega) (by show (s.L ++ N).length ≤ _; omega) (fun m hm => (hT0.valid.2 m hm).2) hr
  rw [hm.tb] at h
  refine h.mono ?_
  rintro e w4 ⟨r4, N4, rfl, hL, y4, hT4, hm4⟩
  have et : (s.L ++ N).take s.L.length = s.L := List.take_left
  obtain ⟨l1, l2, l3, l4⟩ := hL
  have l4' := l4 A hW
  simp only at hT4 l1 l2 l3 l4'
  rw [et] at hT4 l1 l2 l3 l4'
  exact ⟨r4, rfl, stands_of A hlim (by omega) ⟨N4, y4, hT4, l4', l2, l3.trans hd, hm.trans ((moves_below y' hB).trans hm4)⟩⟩

theorem fold_round {M : Nat} {w wr : World} {y : Lay} {s : St} (A : Bd.Fam s.bits M) (hT0 : Tab w y s) (hlim : s.bits * M ≤ s.limit) (fj : FuncId) (jn : Nat → Nat → Nat × Nat × Nat) (hJ : Joins fj jn) (J : Bd.Fn → Bd.Fn → Bd.Fn) (hM : Means jn J) {r m : Nat} {f : Bd.Fn} (hG : Grew noX A w y s wr r f) (hm : m < s.L.length + 2) (hF : A.F 0 (J f (Bd.den s.L m)))
    (room : Nat) (hroom : s.bits * M ≤ room) (hr3 : room ≤ 1073741824) (W : World) (hB : Below wr.heap.size wr W) :
    Calls Try.prog 52 #[.pointer (some ⟨y.tb, 3, none⟩), .int .i64 room] W fun e w1 => ∃ p, e = .returned p ∧ Hid (Calls Try.prog fj #[i6 r, i6 m] w1 fun e w2 => ∃ v, e = .returned v ∧ Hid (Calls Try.prog 53 #[p, v] w2 fun e w3 => ∃ r', e = .returned (i6 r') ∧ Hid (Stands A w y s w3 r' (J f (Bd.den s.L m))))) := by
  obtain ⟨N, y1, hT, hW, hr, hd, hmv⟩ := hG.ex
  have hsl := hT0.small
  have hmN : m < (s.L ++ N).length + 2 := by rw [List.length_append]; omega
  obtain ⟨l1, l2, l3⟩ := hM.lt (s.L ++ N) r m hr hmN
  have hden := hM.den (s.L ++ N) r m
  rw [hd, Bd.den_append_old s.L N hm] at hden
  have h := fold_step (s := { s with L := s.L ++ N }) A hT hW (by show s.bits * M ≤ _; omega) fj jn hJ r m room hroom hr3 l1 l2 l3 (by show A.F 0 (Bd.iteF (Bd.den (s.L ++ N) _) (Bd.den (s.L ++ N) _) (Bd.den (s.L ++ N) _)); rw [hden]; exact hF) W hB
  rw [hmv.tb] at h
  refine h.mono ?_
  rintro e w1 ⟨p, rfl, HJ1⟩
  refine ⟨p, rfl, ?_⟩
  refine HJ1.out.mono ?_
  rintro e w2 ⟨v, rfl, HI1⟩
  refine ⟨v, rfl, ?_⟩
  refine HI1.out.mono ?_
  rintro e w3 ⟨r', rfl, HG1⟩
  refine ⟨r', rfl, ?_⟩
  obtain ⟨N2, y3, hT3, hW3, hr3', hd3, hm3⟩ := HG1.out.ex
  refine stands_of A hlim (by omega) ⟨N ++ N2, y3, ?_, ?_, ?_, ?_, hmv.trans hm3⟩
  · have := hT3; simp only at this; rw [List.append_assoc] at this; exact this
  · have := hW3; simp only at this; rw [List.append_assoc] at this; exact this
  · have := hr3'; simp only at this; rw [List.append_assoc] at this; exact this
  · have := hd3; simp only at this; rw [List.append_assoc, hden] at this; exact this

set_option maxRecDepth 4000 in
set_option maxHeartbeats 8000000 in
theorem fold_any {M : Nat} {w : World} {y : Lay} {s : St} (A : Bd.Fam s.bits M) (hT : Tab w y s) (hW : Bd.Within A s.L) (hlim : s.bits * M ≤ s.limit) (fj : FuncId) (jn : Nat → Nat → Nat × Nat × Nat) (hJ : Joins fj jn) (J : Bd.Fn → Bd.Fn → Bd.Fn) (hM : Means jn J) (e0 g : Nat) (he : e0 < 2) (ns : List Nat) (hn : ns.length ≤ 1000000) (hNA : NodesAt w g ns) (hg : ¬ y.own g)
    (hns : ∀ m, m ∈ ns → m < s.L.length + 2) (F : Nat → Bd.Fn) (h0 : Bd.den s.L e0 = F 0) (hF : ∀ k m, ns[k]? = some m → F (k + 1) = J (F k) (Bd.den s.L m) ∧ A.F 0 (F (k + 1))) :
    Calls Try.prog 47 #[.pointer (some ⟨y.tb, 0, none⟩), .slice (some ⟨g, 0, none⟩) ns.length ns.length, i6 e0, .func (.func fj) #[] #[]] w fun e w' => ∃ r, e = .returned (i6 r) ∧ Grew noX A w y s w' r (F ns.length) := by
  obtain ⟨cs, g0, gs, gc⟩ := hNA
  have lg := block_lt g0
  have ltb := hT.lt y.own_tb
  have hsl := hT.small
  obtain ⟨ao, cap, hls⟩ := hT.list_slice
  have c3 := hT.cell3
  rw [hls] at c3
  have START : Hid (Stands A w y s w e0 (F 0)) := stands_of A hlim (by omega) (Grew.same hT hW (by omega) h0 (Below.refl _ _))
  obtain ⟨n, hnn⟩ : ∃ n, n = ns.length := ⟨_, rfl⟩
  have HNN := keep hnn
  obtain ⟨len, hlen⟩ : ∃ len, len = s.L.length := ⟨_, rfl⟩
  have HLEN := keep hlen
  -- what a round knows
  have ROUND : Hid (∀ (wr : World) (k r : Nat), k < n → Stands A w y s wr r (F k) → ∃ (m : Nat) (ao1 : Option Addr) (len1 cap1 : Nat), wr.cell? ⟨g, k, none⟩ = some (.int .i64 m) ∧ wr.cell? ⟨y.tb, 3, none⟩ = some (.slice ao1 len1 cap1) ∧ len1 ≤ 1048576 ∧ len ≤ len1 ∧ wr.cell? ⟨y.tb, 6, none⟩ = some (.int .i64 s.limit) ∧
      Hid (∀ (W : World) (room : Int), Below wr.heap.size wr W → (s.limit : Int) ≤ room → room ≤ 1073741824 → Calls Try.prog 52 #[.pointer (some ⟨y.tb, 3, none⟩), .int .i64 room] W fun e w1 => ∃ p, e = .returned p ∧ Hid (Calls Try.prog fj #[i6 r, i6 m] w1 fun e w2 => ∃ v, e = .returned v ∧ Hid (Calls Try.prog 53 #[p, v] w2 fun e w3 => ∃ r', e = .returned (i6 r') ∧ Hid (Stands A w y s w3 r' (F (k + 1))))))) := by
    intro wr k r hk hS
    obtain ⟨m, hm⟩ : ∃ m, ns[k]? = some m := ⟨ns[k]'(by omega), List.getElem?_eq_getElem _⟩
    obtain ⟨ao1, len1, cap1, q1, q2, q3⟩ := hS.cell
    obtain ⟨N, y1, hT1, hW1, hr1, hd1, hm1⟩ := hS.grew.ex
    have hb := hm1.block g lg hg (fun h => h)
    refine ⟨m, ao1, len1, cap1, ?_, q1, q2, by omega, ?_, ?_⟩
    · rw [World.cell?_of_block hb, cell_at g0]; exact gc k m hm
    · rw [← hm1.tb, cell_at hT1.cells]; rfl
    · intro W room hB h1 h2
      obtain ⟨rm, rfl⟩ : ∃ rm : Nat, room = (rm : Int) := ⟨room.toNat, by omega⟩
      obtain ⟨f1, f2⟩ := hF k m hm
      have := fold_round A hT hlim fj jn hJ J hM hS.grew (hns m (List.mem_of_getElem? hm)) (by rw [← f1]; exact f2) rm (by omega) (by omega) W hB
      rw [← f1] at this
      exact this
  have SHRINK : Hid (∀ (w3 : World) (k r : Nat), Stands A w y s w3 r (F k) → Calls Try.prog 83 #[.pointer (some ⟨y.tb, 3, none⟩), i6 len, i6 r] w3 fun e w4 => ∃ r4, e = .returned (i6 r4) ∧ Hid (Stands A w y s w4 r4 (F k))) := by
    intro w3 k r hS
    rw [hlen]
    exact shrink_stands A hT hlim hS.grew w3 (Below.refl _ _)
  have hent := hJ.enter
  have hlimI : (s.limit : Int) ≤ 1048576 := by omega
  have hlim0 : (0 : Int) ≤ (s.limit : Int) := by omega
  have hlenI : (len : Int) ≤ 1048576 := by
    have := hW.few hT.okay
    omega
  have hnI : (n : Int) ≤ 1000000 := by omega
  rw [← hnn]
  rw [← hlen] at c3
  clear hT hW hlim hJ hM g0 gs gc hls hsl hns h0 hF hg hnn hlen lg he
  go_enter Try.func47, Try.ntmps47
  go_wp2_with fail
  go_loopw [2, 10, 24] (fun u v i wr => ∃ k r d : Nat, k ≤ n ∧ u = .int .i64 r ∧ v = .int .i64 d ∧ d ≤ 1048576 ∧ i = .int .i64 k ∧ Hid (Stands A w y s wr r (F k))) (fun _ _ i _ => n - (intOf i).toNat)
  case atStart => exact ⟨0, e0, 0, Nat.zero_le _, rfl, rfl, by omega, rfl, START⟩
  case round =>
    obtain ⟨k, r, d, hk, rfl, rfl, hd, rfl, HS⟩ := hrel
    by_cases hlt : k < n
    · obtain ⟨m, ao1, len1, cap1, q0, q3, q4, q5, q6, QS⟩ := ROUND.out wr k r hlt HS.out
      have hkI : (k : Int) < (n : Int) := by omega
      have hk0 : (0 : Int) ≤ (k : Int) := by omega
      have h1I : (len1 : Int) ≤ 1048576 := by omega
      have hle : (len : Int) ≤ (len1 : Int) := by omega
      have hdI : (d : Int) ≤ 1048576 := by omega
      have hd0 : (0 : Int) ≤ (d : Int) := by omega
      clear HS
      by_cases hlast : k = n - 1
      · have hl1 : ((k : Int) == (n : Int) - 1) = true := by rw [beq_iff_eq]; omega
        have HLAST := keep hlast
        clear hlast
        go_wp2_with fail
        go_quiet (fail)
        go_wp2_with fail
        refine (QS.out _ _ (belowN (Below.refl _ _) _) (by omega) (by omega)).mono ?_
        rintro e w1 ⟨p, rfl, HJ1⟩
        clear QS q0 q3 q6
        go_wp2_with fail
        refine HJ1.out.mono ?_
        rintro e w2 ⟨v, rfl, HI1⟩
        clear HJ1
        go_wp2_with fail
        refine HI1.out.mono ?_
        rintro e w3 ⟨r', rfl, HS3⟩
        clear HI1
        obtain ⟨ao2, len2, cap2, p3, p4, p5⟩ := HS3.out.cell
        have hp5 : (len : Int) ≤ (len2 : Int) := by have := HLEN.out; omega
        have hp4 : (len2 : Int) ≤ 1048576 := by omega
        clear p5
        by_cases hmore : (len : Int) < (len1 : Int)
        · go_wp2_with fail
          refine (SHRINK.out w3 (k + 1) r' HS3.out).mono ?_
          rintro e w4 ⟨r4, rfl, HS4⟩
          obtain ⟨ao4, len4, cap4, t3, t4, t5⟩ := HS4.out.cell
          have ht5 : (len : Int) ≤ (len4 : Int) := by have := HLEN.out; omega
          have ht4 : (len4 : Int) ≤ 1048576 := by omega
          clear t5 p3
          go_wp2_with fail
          go_roundw
          case rel => exact ⟨k + 1, r4, len4 - len, by omega, rfl, by congr 1; omega, by omega, by go_num, HS4⟩
          case measure => simp [intOf]; omega
        · go_wp2_with fail
          go_roundw
          case rel => exact ⟨k + 1, r', d, by omega, rfl, rfl, hd, by go_num, HS3⟩
          case measure => simp [intOf]; omega
      · have hl1 : ((k : Int) == (n : Int) - 1) = false := by rw [beq_eq_false_iff_ne]; omega
        clear hlast
        go_wp2_with fail
        go_quiet (fail)
        go_wp2_with fail
        refine (QS.out _ _ (belowN (Below.refl _ _) _) (by omega) (by omega)).mono ?_
        rintro e w1 ⟨p, rfl, HJ1⟩
        clear QS q0 q3 q6
        go_wp2_with fail
        refine HJ1.out.mono ?_
        rintro e w2 ⟨v, rfl, HI1⟩
        clear HJ1
        go_wp2_with fail
        refine HI1.out.mono ?_
        rintro e w3 ⟨r', rfl, HS3⟩
        clear HI1
        obtain ⟨ao2, len2, cap2, p3, p4, p5⟩ := HS3.out.cell
        have hp5 : (len : Int) ≤ (len2 : Int) := by have := HLEN.out; omega
        have hp4 : (len2 : Int) ≤ 1048576 := by omega
        clear p5
        by_cases hmore : (len : Int) < (len1 : Int)
        · by_cases hbig : 2 * (d : Int) + 4096 < (len2 : Int) - (len : Int)
          · have hbig2 : 2 * (d : Int) + 4096 + (len : Int) < (len2 : Int) := by omega
            go_wp2_with fail
            refine (SHRINK.out w3 (k + 1) r' HS3.out).mono ?_
            rintro e w4 ⟨r4, rfl, HS4⟩
            obtain ⟨ao4, len4, cap4, t3, t4, t5⟩ := HS4.out.cell
            have ht5 : (len : Int) ≤ (len4 : Int) := by have := HLEN.out; omega
            have ht4 : (len4 : Int) ≤ 1048576 := by omega
            clear t5 p3
            go_wp2_with fail
            go_roundw
            case rel => exact ⟨k + 1, r4, len4 - len, by omega, rfl, by congr 1; omega, by omega, by go_num, HS4⟩
            case measure => simp [intOf]; omega
          · have hbig2 : ¬ (2 * (d : Int) + 4096 + (len : Int) < (len2 : Int)) := by omega
            go_wp2_with fail
            go_roundw
            case rel => exact ⟨k + 1, r', d, by omega, rfl, rfl, hd, by go_num, HS3⟩
            case measure => simp [intOf]; omega
        · go_wp2_with fail
          go_roundw
          case rel => exact ⟨k + 1, r', d, by omega, rfl, rfl, hd, by go_num, HS3⟩
          case measure => simp [intOf]; omega
    · have hkn : k = n := by omega
      subst hkn
      go_wp2_with fail
      go_ret
      have := HS.out.grew
      rw [HNN.out] at this
      exact ⟨r, rfl, by rw [← HNN.out] at this; exact this⟩
end Go.Proofs.Ytffngpdngjfcfaa
namespace Go.Proofs.Ytffngpdngjfcfaa
open Go.RowKit Go.Maps
open Bd (Nd)

theorem or_join (w : World) (a b : Nat) : Calls Try.prog 48 #[i6 a, i6 b] w fun e w' => e = .returned (.agg #[i6 a, i6 1, i6 b]) ∧ Below w.heap.size w w' := by
  go_enter Try.func48, Try.ntmps48
  go_wp2
  refine bodyPost_ret (v := .agg #[i6 a, i6 1, i6 b]) (by simp [results, Try.results48, go_sem]) rfl ⟨rfl, (Below.refl _ _).alloc (Nat.le_refl _) _⟩
theorem or_joins : Joins 48 (fun a b => (a, 1, b)) := ⟨fun args w => by kernel_rfl, fun w a b => or_join w a b⟩
theorem means_or : Means (fun a b => (a, 1, b)) (fun f g => Bd.iteF f Bd.tt g) := ⟨fun L a b ha hb => ⟨ha, by show 1 < _; omega, hb⟩, fun L a b => by show Bd.iteF _ (Bd.den L 1) _ = _; rw [Bd.den_one]⟩
theorem means_and : Means (fun a b => (a, b, 0)) (fun f g => Bd.iteF f g Bd.ff) := ⟨fun L a b ha hb => ⟨ha, hb, by show 0 < _; omega⟩, fun L a b => by show Bd.iteF _ _ (Bd.den L 0) = _; rw [Bd.den_zero]⟩
theorem enter_Or : ∀ args w, (callFunc 46 args).run Try.prog w = .ok (.enter 46 args) w := fun args w => by kernel_rfl
theorem enter_Ite : ∀ args w, (callFunc 51 args).run Try.prog w = .ok (.enter 51 args) w := fun args w => by kernel_rfl

set_option maxHeartbeats 1000000 in
theorem or_how {M : Nat} {w : World} {y : Lay} {s : St} (A : Bd.Fam s.bits M) (hT : Tab w y s) (hW : Bd.Within A s.L) (hlim : s.bits * M ≤ s.limit) (B g : Nat) (ns : List Nat) (hn : ns.length ≤ 1000000) (h0 : w.heap[B]? = some (.cells #[.pointer (some ⟨y.tb, 0, none⟩)] 23 (0, 0))) (hNA : NodesAt w g ns) (hg : ¬ y.own g)
    (hns : ∀ m, m ∈ ns → m < s.L.length + 2) (F : Nat → Bd.Fn) (hz : Bd.ff = F 0) (hF : ∀ k m, ns[k]? = some m → F (k + 1) = Bd.iteF (F k) Bd.tt (Bd.den s.L m) ∧ A.F 0 (F (k + 1))) :
    Calls Try.prog 46 #[.slice (some ⟨g, 0, none⟩) ns.length ns.length, .pointer (some ⟨B, 0, none⟩)] w fun e w' => ∃ r, e = .returned (i6 r) ∧ Grew noX A w y s w' r (F ns.length) := by
  have c0 : w.cell? ⟨B, 0, none⟩ = some (.pointer (some ⟨y.tb, 0, none⟩)) := by rw [cell_at h0]; rfl
  have HF := keep (fold_any A hT hW hlim 48 (fun a b => (a, 1, b)) or_joins _ means_or 0 g (by omega) ns hn hNA hg hns F (by rw [Bd.den_zero]; exact hz) hF)
  obtain ⟨n, hnn⟩ : ∃ n, n = ns.length := ⟨_, rfl⟩
  rw [← hnn] at HF ⊢
  clear hT hW hF hNA h0 hlim hns hg hn hz hnn
  go_enter Try.func46, Try.ntmps46
  go_wp2_with fail
  refine HF.out.mono ?_
  rintro e w' ⟨r, rfl, hG⟩
  have HG := keep hG
  clear hG
  go_wp2_with fail
  go_ret
  exact ⟨r, rfl, HG.out⟩
set_option maxHeartbeats 1000000 in
theorem and_hows {M : Nat} {w : World} {y : Lay} {s : St} (A : Bd.Fam s.bits M) (hT : Tab w y s) (hW : Bd.Within A s.L) (hlim : s.bits * M ≤ s.limit) (B g : Nat) (ns : List Nat) (hn : ns.length ≤ 1000000) (h0 : w.heap[B]? = some (.cells #[.pointer (some ⟨y.tb, 0, none⟩)] 23 (0, 0))) (hNA : NodesAt w g ns) (hg : ¬ y.own g)
    (hns : ∀ m, m ∈ ns → m < s.L.length + 2) (F : Nat → Bd.Fn) (hz : Bd.tt = F 0) (hF : ∀ k m, ns[k]? = some m → F (k + 1) = Bd.iteF (F k) (Bd.den s.L m) Bd.ff ∧ A.F 0 (F (k + 1))) :
    Calls Try.prog 49 #[.slice (some ⟨g, 0, none⟩) ns.length ns.length, .pointer (some ⟨B, 0, none⟩)] w fun e w' => ∃ r, e = .returned (i6 r) ∧ Grew noX A w y s w' r (F ns.length) := by
  have c0 : w.cell? ⟨B, 0, none⟩ = some (.pointer (some ⟨y.tb, 0, none⟩)) := by rw [cell_at h0]; rfl
  have HF := keep (fold_any A hT hW hlim 50 (fun a b => (a, b, 0)) and_joins _ means_and 1 g (by omega) ns hn hNA hg hns F (by rw [Bd.den_one]; exact hz) hF)
  obtain ⟨n, hnn⟩ : ∃ n, n = ns.length := ⟨_, rfl⟩
  rw [← hnn] at HF ⊢
  clear hT hW hF hNA h0 hlim hns hg hn hz hnn
  go_enter Try.func49, Try.ntmps49
  go_wp2_with fail
  refine HF.out.mono ?_
  rintro e w' ⟨r, rfl, hG⟩
  have HG := keep hG
  clear hG
  go_wp2_with fail
  go_ret
  exact ⟨r, rfl, HG.out⟩

set_option maxHeartbeats 1000000 in
theorem Or_many {M : Nat} {w : World} {y : Lay} {s : St} (A : Bd.Fam s.bits M) (hT : Tab w y s) (hW : Bd.Within A s.L) (h2 : 2 ≤ s.first) (hsm : s.roots.length + 1 ≤ 1073741824) (hlim : s.bits * M ≤ s.limit) (v : Value) (ls ns : List Nat) (hR : RefsAt w v ls) (hl : ls.length ≤ 1000000) (hN : NodesOf s ls ns)
    (hns : ∀ m, m ∈ ns → m < s.L.length + 2) (F : Nat → Bd.Fn) (hz : Bd.ff = F 0) (hF : ∀ k m, ns[k]? = some m → F (k + 1) = Bd.iteF (F k) Bd.tt (Bd.den s.L m) ∧ A.F 0 (F (k + 1))) :
    Calls Try.prog 19 #[.pointer (some ⟨y.tb, 0, none⟩), v] w fun e w' => ∃ r, e = .returned (.tuple #[i6 r, .int .i64 0]) ∧ Told A w y s w' r (F ns.length) := by
  have hmf : ∀ (fn : Fn) (first cap : Array Value) (w : World), (Instr.makeFunc fn first cap).run Try.prog w = .ok (.func fn first cap) w := fun _ _ _ _ => rfl
  have hb : Below w.heap.size w (w.alloc (.cells #[.pointer (some ⟨y.tb, 0, none⟩)] 23)) := (Below.refl _ _).alloc (Nat.le_refl _) _
  have x0 := heap_alloc_new w (.cells #[.pointer (some ⟨y.tb, 0, none⟩)] 23)
  have hT1 := hT.below hb
  have hnl := hN.1
  have h := answer_ok A hT1 h2 hsm hlim v ls ns (hR.below hb) hl hN 46 enter_Or #[.pointer (some ⟨w.heap.size, 0, none⟩)] (F ns.length) (fun w2 g hb2 hNA hg => by
    rw [← hnl]
    exact or_how A (hT1.below hb2) hW hlim w.heap.size g ns (by omega) ((hb2.block _ (block_lt x0)).trans x0) hNA (fun ho => by have := hT1.lt ho; omega) hns F hz hF)
  have HA := keep h
  have HB := keep hb
  clear h hT hT1 hW hR hN hF x0 hb hnl hns hz hl
  go_enter Try.func19, Try.ntmps19
  go_wp2_with fail
  refine HA.out.mono ?_
  rintro e w' ⟨r, rfl, ⟨N, t, y', m, q1, q2, q3, q4, q5, q6, q7⟩⟩
  have HG : Hid (Told A w y s w' r (F ns.length)) := ⟨N, t, y', m, q1, q2, q3, q4, q5, (moves_below y HB.out).trans q6, q7⟩
  clear q1 q2 q3 q4 q5 q6 q7
  go_wp2_with fail
  go_ret2
  exact ⟨r, rfl, HG.out⟩

set_option maxHeartbeats 4000000 in
theorem ite_how {M : Nat} {w : World} {y : Lay} {s : St} (A : Bd.Fam s.bits M) (hT : Tab w y s) (hW : Bd.Within A s.L) (hlim : s.bits * M ≤ s.limit) (B n0 n1 n2 g : Nat) (h0 : w.heap[B]? = some (.cells #[.pointer (some ⟨y.tb, 0, none⟩)] 23 (0, 0))) (hNA : NodesAt w g [n0, n1, n2]) (hg : ¬ y.own g) (hyB : ¬ y.own B)
    (l0 : n0 < s.L.length + 2) (l1 : n1 < s.L.length + 2) (l2 : n2 < s.L.length + 2) (hF : A.F 0 (Bd.iteF (Bd.den s.L n0) (Bd.den s.L n1) (Bd.den s.L n2))) :
    Calls Try.prog 51 #[.slice (some ⟨g, 0, none⟩) 3 3, .pointer (some ⟨B, 0, none⟩)] w fun e w' => ∃ r, e = .returned (i6 r) ∧ Grew noX A w y s w' r (Bd.iteF (Bd.den s.L n0) (Bd.den s.L n1) (Bd.den s.L n2)) := by
  obtain ⟨cs, g0, gs, gc⟩ := hNA
  have lB := block_lt h0
  have lg := block_lt g0
  have ltb := hT.lt y.own_tb
  have hsl := hT.small
  obtain ⟨f, hf⟩ : ∃ f, f = Bd.iteF (Bd.den s.L n0) (Bd.den s.L n1) (Bd.den s.L n2) := ⟨_, rfl⟩
  have five : ∀ w' : World, w'.heap[B]? = w.heap[B]? → w'.heap[g]? = w.heap[g]? → w'.cell? ⟨y.tb, 6, none⟩ = some (.int .i64 s.limit) → w'.cell? ⟨B, 0, none⟩ = some (.pointer (some ⟨y.tb, 0, none⟩)) ∧ w'.cell? ⟨y.tb, 6, none⟩ = some (.int .i64 s.limit) ∧ w'.cell? ⟨g, 0, none⟩ = some (.int .i64 n0) ∧ w'.cell? ⟨g, 1, none⟩ = some (.int .i64 n1) ∧ w'.cell? ⟨g, 2, none⟩ = some (.int .i64 n2) := by
    intro w' e1 e2 e3
    refine ⟨?_, e3, ?_, ?_, ?_⟩
    · rw [World.cell?_of_block e1, cell_at h0]; rfl
    · rw [World.cell?_of_block e2, cell_at g0]; exact gc 0 n0 rfl
    · rw [World.cell?_of_block e2, cell_at g0]; exact gc 1 n1 rfl
    · rw [World.cell?_of_block e2, cell_at g0]; exact gc 2 n2 rfl
  have c6 : w.cell? ⟨y.tb, 6, none⟩ = some (.int .i64 s.limit) := by rw [cell_at hT.cells]; rfl
  obtain ⟨k1, k2, k3, k4, k5⟩ := five w rfl rfl c6
  have HC : Hid (Calls Try.prog 52 #[.pointer (some ⟨y.tb, 3, none⟩), .int .i64 s.limit] w.drew fun e w1 => e = .returned (.pointer (some ⟨w.heap.size + 1, 0, none⟩)) ∧ (w1.cell? ⟨B, 0, none⟩ = some (.pointer (some ⟨y.tb, 0, none⟩)) ∧ w1.cell? ⟨y.tb, 6, none⟩ = some (.int .i64 s.limit) ∧ w1.cell? ⟨g, 0, none⟩ = some (.int .i64 n0) ∧ w1.cell? ⟨g, 1, none⟩ = some (.int .i64 n1) ∧ w1.cell? ⟨g, 2, none⟩ = some (.int .i64 n2)) ∧
      Hid (Calls Try.prog 53 #[.pointer (some ⟨w.heap.size + 1, 0, none⟩), .agg #[.int .i64 n0, .int .i64 n1, .int .i64 n2]] w1 fun e w2 => ∃ r, e = .returned (i6 r) ∧ (w2.cell? ⟨B, 0, none⟩ = some (.pointer (some ⟨y.tb, 0, none⟩)) ∧ w2.cell? ⟨y.tb, 6, none⟩ = some (.int .i64 s.limit) ∧ w2.cell? ⟨g, 0, none⟩ = some (.int .i64 n0) ∧ w2.cell? ⟨g, 1, none⟩ = some (.int .i64 n1) ∧ w2.cell? ⟨g, 2, none⟩ = some (.int .i64 n2)) ∧ Hid (Grew noX A w y s w2 r f))) := by
    refine (step_any w.drew y.tb s.limit).mono ?_
    rintro e w1 ⟨rfl, rfl⟩
    obtain ⟨s1, s2, s3⟩ := step_new w.drew y.tb s.limit
    have s3' : Below w.heap.size w _ := (Below.refl w.heap.size w).drew.trans s3
    have hT1 := hT.below s3'
    refine ⟨rfl, five _ (s3'.block _ lB) (s3'.block _ lg) (by rw [cell_at hT1.cells]; rfl), ?_⟩
    have hns : ¬ y.own (w.heap.size + 1) := fun ho => by have := hT.lt ho; omega
    have hnk : ¬ y.own w.heap.size := fun ho => by have := hT.lt ho; omega
    refine (ite_all 128 s A _ y (w.heap.size + 1) s.limit w.heap.size 0 (fun _ => none) n0 n1 n2 0 hT1 hW s1 hns hnk hlim (by omega) (by omega) s2 (known_none _) l0 l1 l2 (Nat.zero_le _) (Nat.zero_le _) (Nat.zero_le _) hF (by omega)).mono ?_
    rintro e w2 ⟨r, rfl, ⟨N, y3, t3, wi3, hr, d3, m3, _⟩⟩
    have z := s3'.size
    have bB := m3.block B (by omega) hyB (fun e => by omega)
    have bg := m3.block g (by omega) hg (fun e => by omega)
    refine ⟨r, rfl, five w2 (bB.trans (s3'.block _ lB)) (bg.trans (s3'.block _ lg)) (by rw [← m3.tb, cell_at t3.cells]; rfl), N, y3, t3, wi3, hr, by rw [hf]; exact d3, ?_⟩
    have mA := (moves_below (X := fun k => k = w.heap.size) y s3').trans m3
    exact ⟨mA.tb, mA.own, mA.os, mA.tape, mA.output, mA.size, fun k hk hn _ => mA.block k hk hn (fun e => by omega)⟩
  rw [← hf]
  clear hT hW hlim h0 hF g0 gs gc five hsl hf hg hyB c6 l0 l1 l2
  go_enter Try.func51, Try.ntmps51
  go_wp2_with fail
  go_region_held3 (fun w' => w'.cell? ⟨B, 0, none⟩ = some (.pointer (some ⟨y.tb, 0, none⟩)) ∧ w'.cell? ⟨y.tb, 6, none⟩ = some (.int .i64 s.limit) ∧ w'.cell? ⟨g, 0, none⟩ = some (.int .i64 n0) ∧ w'.cell? ⟨g, 1, none⟩ = some (.int .i64 n1) ∧ w'.cell? ⟨g, 2, none⟩ = some (.int .i64 n2)) (first | (go_keep; done) | exact S2 | exact S1) (first | (go_at_call 53; refine HC2.out.mono ?_; rintro e w2 ⟨r, rfl, S2, HG⟩) | (go_at_call 52; refine HC.out.mono ?_; rintro e w1 ⟨rfl, S1, HC2⟩))
  go_wp2_with fail
  go_ret
  exact ⟨r, rfl, HG.out⟩

set_option maxHeartbeats 1000000 in
theorem Ite_ok {M : Nat} {w : World} {y : Lay} {s : St} (A : Bd.Fam s.bits M) (hT : Tab w y s) (hW : Bd.Within A s.L) (h2 : 2 ≤ s.first) (hsm : s.roots.length + 1 ≤ 1073741824) (hlim : s.bits * M ≤ s.limit) (r0 r1 r2 n0 n1 n2 : Nat) (hn0 : s.node? r0 = some n0) (hn1 : s.node? r1 = some n1) (hn2 : s.node? r2 = some n2)
    (l0 : n0 < s.L.length + 2) (l1 : n1 < s.L.length + 2) (l2 : n2 < s.L.length + 2) (hF : A.F 0 (Bd.iteF (Bd.den s.L n0) (Bd.den s.L n1) (Bd.den s.L n2))) :
    Calls Try.prog 23 #[.pointer (some ⟨y.tb, 0, none⟩), i6 r0, i6 r1, i6 r2] w fun e w' => ∃ r, e = .returned (.tuple #[i6 r, .int .i64 0]) ∧ Told A w y s w' r (Bd.iteF (Bd.den s.L n0) (Bd.den s.L n1) (Bd.den s.L n2)) := by
  have hmf : ∀ (fn : Fn) (first cap : Array Value) (w : World), (Instr.makeFunc fn first cap).run Try.prog w = .ok (.func fn first cap) w := fun _ _ _ _ => rfl
  obtain ⟨x0, x1, hb, xs⟩ := box2 w (.cells #[.pointer (some ⟨y.tb, 0, none⟩)] 23) (.cells #[i6 r0, i6 r1, i6 r2] 25)
  have hT1 := hT.below hb
  have hR : RefsAt ((w.alloc (.cells #[.pointer (some ⟨y.tb, 0, none⟩)] 23)).alloc (.cells #[i6 r0, i6 r1, i6 r2] 25)) (.slice (some ⟨w.heap.size + 1, 0, none⟩) 3 3) [r0, r1, r2] := by
    refine ⟨_, 3, rfl, fun i q hi => ?_⟩
    match i, hi with
    | 0, hi => simp at hi; subst hi; exact ⟨_, 0, rfl, by omega, by rw [cell_at x1]; rfl⟩
    | 1, hi => simp at hi; subst hi; exact ⟨_, 0, rfl, by omega, by rw [cell_at x1]; rfl⟩
    | 2, hi => simp at hi; subst hi; exact ⟨_, 0, rfl, by omega, by rw [cell_at x1]; rfl⟩
    | (i + 3), hi => simp at hi
  have hN : NodesOf s [r0, r1, r2] [n0, n1, n2] := by
    refine ⟨rfl, fun i r hi => ?_⟩
    match i, hi with
    | 0, hi => simp at hi; subst hi; exact ⟨n0, rfl, hn0⟩
    | 1, hi => simp at hi; subst hi; exact ⟨n1, rfl, hn1⟩
    | 2, hi => simp at hi; subst hi; exact ⟨n2, rfl, hn2⟩
    | (i + 3), hi => simp at hi
  have h := answer_ok A hT1 h2 hsm hlim _ [r0, r1, r2] [n0, n1, n2] hR (by simp) hN 51 enter_Ite #[.pointer (some ⟨w.heap.size, 0, none⟩)] (Bd.iteF (Bd.den s.L n0) (Bd.den s.L n1) (Bd.den s.L n2)) (fun w2 g hb2 hNA hg => ite_how A (hT1.below hb2) hW hlim w.heap.size n0 n1 n2 g ((hb2.block _ (block_lt x0)).trans x0) hNA (fun ho => by have := hT.lt ho; omega) (fun ho => by have := hT.lt ho; omega) l0 l1 l2 hF)
  obtain ⟨f, hf⟩ : ∃ f, f = Bd.iteF (Bd.den s.L n0) (Bd.den s.L n1) (Bd.den s.L n2) := ⟨_, rfl⟩
  rw [← hf] at h ⊢
  have HA := keep h
  have HB := keep hb
  clear h hT hT1 hW hR hN hF x0 x1 xs hb hf hn0 hn1 hn2
  go_enter Try.func23, Try.ntmps23
  go_wp2_with fail
  refine HA.out.mono ?_
  rintro e w' ⟨r, rfl, ⟨N, t, y', m, q1, q2, q3, q4, q5, q6, q7⟩⟩
  have HG : Hid (Told A w y s w' r f) := ⟨N, t, y', m, q1, q2, q3, q4, q5, (moves_below y HB.out).trans q6, q7⟩
  clear q1 q2 q3 q4 q5 q6 q7
  go_wp2_with fail
  go_ret2
  exact ⟨r, rfl, HG.out⟩
end Go.Proofs.Ytffngpdngjfcfaa
namespace Go.Proofs.Ytffngpdngjfcfaa
open Go.RowKit Go.Maps
open Bd (Nd)

set_option maxHeartbeats 1000000 in
theorem And_many {M : Nat} {w : World} {y : Lay} {s : St} (A : Bd.Fam s.bits M) (hT : Tab w y s) (hW : Bd.Within A s.L) (h2 : 2 ≤ s.first) (hsm : s.roots.length + 1 ≤ 1073741824) (hlim : s.bits * M ≤ s.limit) (v : Value) (ls ns : List Nat) (hR : RefsAt w v ls) (hl : ls.length ≤ 1000000) (hN : NodesOf s ls ns)
    (hns : ∀ m, m ∈ ns → m < s.L.length + 2) (F : Nat → Bd.Fn) (hz : Bd.tt = F 0) (hF : ∀ k m, ns[k]? = some m → F (k + 1) = Bd.iteF (F k) (Bd.den s.L m) Bd.ff ∧ A.F 0 (F (k + 1))) :
    Calls Try.prog 21 #[.pointer (some ⟨y.tb, 0, none⟩), v] w fun e w' => ∃ r, e = .returned (.tuple #[i6 r, .int .i64 0]) ∧ Told A w y s w' r (F ns.length) := by
  have hmf : ∀ (fn : Fn) (first cap : Array Value) (w : World), (Instr.makeFunc fn first cap).run Try.prog w = .ok (.func fn first cap) w := fun _ _ _ _ => rfl
  have hb : Below w.heap.size w (w.alloc (.cells #[.pointer (some ⟨y.tb, 0, none⟩)] 23)) := (Below.refl _ _).alloc (Nat.le_refl _) _
  have x0 := heap_alloc_new w (.cells #[.pointer (some ⟨y.tb, 0, none⟩)] 23)
  have hT1 := hT.below hb
  have hnl := hN.1
  have h := answer_ok A hT1 h2 hsm hlim v ls ns (hR.below hb) hl hN 49 enter_And #[.pointer (some ⟨w.heap.size, 0, none⟩)] (F ns.length) (fun w2 g hb2 hNA hg => by
    rw [← hnl]
    exact and_hows A (hT1.below hb2) hW hlim w.heap.size g ns (by omega) ((hb2.block _ (block_lt x0)).trans x0) hNA (fun ho => by have := hT1.lt ho; omega) hns F hz hF)
  have HA := keep h
  have HB := keep hb
  clear h hT hT1 hW hR hN hF x0 hb hnl hns hz hl
  go_enter Try.func21, Try.ntmps21
  go_wp2_with fail
  refine HA.out.mono ?_
  rintro e w' ⟨r, rfl, ⟨N, t, y', m, q1, q2, q3, q4, q5, q6, q7⟩⟩
  have HG : Hid (Told A w y s w' r (F ns.length)) := ⟨N, t, y', m, q1, q2, q3, q4, q5, (moves_below y HB.out).trans q6, q7⟩
  clear q1 q2 q3 q4 q5 q6 q7
  go_wp2_with fail
  go_ret2
  exact ⟨r, rfl, HG.out⟩

theorem node_no (s : St) : s.node? 0 = some 0 := rfl
theorem node_yes (s : St) : s.node? 1 = some 1 := rfl

set_option maxHeartbeats 400000 in
theorem Not_ok {M : Nat} {w : World} {y : Lay} {s : St} (A : Bd.Fam s.bits M) (hT : Tab w y s) (hW : Bd.Within A s.L) (h2 : 2 ≤ s.first) (hsm : s.roots.length + 1 ≤ 1073741824) (hlim : s.bits * M ≤ s.limit) (r0 n0 : Nat) (hn0 : s.node? r0 = some n0) (l0 : n0 < s.L.length + 2) (hF : A.F 0 (Bd.iteF (Bd.den s.L n0) Bd.ff Bd.tt)) :
    Calls Try.prog 20 #[.pointer (some ⟨y.tb, 0, none⟩), i6 r0] w fun e w' => ∃ r, e = .returned (.tuple #[i6 r, .int .i64 0]) ∧ Told A w y s w' r (Bd.iteF (Bd.den s.L n0) Bd.ff Bd.tt) := by
  have h := Ite_ok A hT hW h2 hsm hlim r0 0 1 n0 0 1 hn0 (node_no s) (node_yes s) l0 (by omega) (by omega) (by rw [Bd.den_zero, Bd.den_one]; exact hF)
  rw [Bd.den_zero, Bd.den_one] at h
  obtain ⟨f, hf⟩ : ∃ f, f = Bd.iteF (Bd.den s.L n0) Bd.ff Bd.tt := ⟨_, rfl⟩
  rw [← hf] at h ⊢
  have H := keep h
  clear h hT hW hF hn0 hf
  go_enter Try.func20, Try.ntmps20
  go_wp2_with fail
  refine H.out.mono ?_
  rintro e w' ⟨r, rfl, ht⟩
  have HT := keep ht
  clear ht
  go_wp2
  go_ret2
  exact ⟨r, rfl, HT.out⟩
set_option maxHeartbeats 400000 in
theorem Diff_ok {M : Nat} {w : World} {y : Lay} {s : St} (A : Bd.Fam s.bits M) (hT : Tab w y s) (hW : Bd.Within A s.L) (h2 : 2 ≤ s.first) (hsm : s.roots.length + 1 ≤ 1073741824) (hlim : s.bits * M ≤ s.limit) (r0 n0 r1 n1 : Nat) (hn0 : s.node? r0 = some n0) (hn1 : s.node? r1 = some n1) (l0 : n0 < s.L.length + 2) (l1 : n1 < s.L.length + 2) (hF : A.F 0 (Bd.iteF (Bd.den s.L n1) Bd.ff (Bd.den s.L n0))) :
    Calls Try.prog 22 #[.pointer (some ⟨y.tb, 0, none⟩), i6 r0, i6 r1] w fun e w' => ∃ r, e = .returned (.tuple #[i6 r, .int .i64 0]) ∧ Told A w y s w' r (Bd.iteF (Bd.den s.L n1) Bd.ff (Bd.den s.L n0)) := by
  have h := Ite_ok A hT hW h2 hsm hlim r1 0 r0 n1 0 n0 hn1 (node_no s) hn0 l1 (by omega) l0 (by rw [Bd.den_zero]; exact hF)
  rw [Bd.den_zero] at h
  obtain ⟨f, hf⟩ : ∃ f, f = Bd.iteF (Bd.den s.L n1) Bd.ff (Bd.den s.L n0) := ⟨_, rfl⟩
  rw [← hf] at h ⊢
  have H := keep h
  clear h hT hW hF hn0 hn1 hf
  go_enter Try.func22, Try.ntmps22
  go_wp2_with fail
  refine H.out.mono ?_
  rintro e w' ⟨r, rfl, ht⟩
  have HT := keep ht
  clear ht
  go_wp2
  go_ret2
  exact ⟨r, rfl, HT.out⟩

/-- Two refs of one node are one. -/
theorem node_inj {w : World} {y : Lay} {s : St} (hT : Tab w y s) {r r' m : Nat} (h : s.node? r = some m) (h' : s.node? r' = some m) : r = r' := by
  have root : ∀ q, ¬ q < 2 → s.node? q = some m → s.first ≤ q ∧ s.roots[q - s.first]? = some m := by
    intro q hq hn
    unfold St.node? at hn
    rw [if_neg hq] at hn
    by_cases h2 : s.first ≤ q
    · rw [if_pos h2] at hn; exact ⟨h2, hn⟩
    · rw [if_neg h2] at hn; cases hn
  have small : ∀ q, q < 2 → s.node? q = some m → q = m := by
    intro q hq hn
    unfold St.node? at hn
    rw [if_pos hq] at hn
    exact Option.some.inj hn
  have big : ∀ q, s.roots[q]? = some m → 2 ≤ m := fun q hq => (hT.valid.2 m (List.mem_of_getElem? hq)).1
  by_cases h1 : r < 2
  · have e1 := small r h1 h
    by_cases h3 : r' < 2
    · exact e1.trans (small r' h3 h').symm
    · have := big _ (root r' h3 h').2
      omega
  · obtain ⟨a1, a2⟩ := root r h1 h
    by_cases h3 : r' < 2
    · have := small r' h3 h'
      have := big _ a2
      omega
    · obtain ⟨b1, b2⟩ := root r' h3 h'
      have i1 := Bd.getElem?_lt a2
      have i2 := Bd.getElem?_lt b2
      rw [List.getElem?_eq_getElem i1] at a2
      rw [List.getElem?_eq_getElem i2] at b2
      have e : s.roots[r - s.first] = s.roots[r' - s.first] := by rw [Option.some.inj a2, Option.some.inj b2]
      have := (List.getElem_inj (h₀ := i1) (h₁ := i2) hT.valid.1).1 e
      omega
end Go.Proofs.Ytffngpdngjfcfaa
namespace Go.Proofs.Ytffngpdngjfcfaa
open Go.RowKit Go.Maps

/-- answer fails. -/
def AnsErr (w : World) (p v : Value) (err : Int) : Prop := ∀ f, Calls Try.prog 45 #[p, v, f] w fun e w' => e = .returned (.tuple #[.int .i64 0, .int .i64 err]) ∧ Below w.heap.size w w'

set_option maxHeartbeats 1000000 in
theorem answer_no {w : World} {p : Value} (h : Nobody w p) (v : Value) : AnsErr w p v 4 := by
  intro f
  have hb : Below w.heap.size w (((w.alloc (.cells #[p] 23)).alloc (.cells #[.int .i64 0] 25)).alloc (.cells #[.int .i64 0] 30)) := (((Below.refl _ _).alloc (Nat.le_refl _) _).alloc (by simp) _).alloc (by simp <;> omega) _
  have q := made_no (h.below hb)
  obtain ⟨a, rfl⟩ := h.pointer
  clear h hb
  go_enter_defers Try.func45, Try.ntmps45
  go_wp2_with (refine q.mono ?_; rintro e w' ⟨rfl, rfl⟩)
  refine ⟨.tuple #[.int .i64 0, .int .i64 4], ?_, rfl, (((Below.refl _ _).alloc (Nat.le_refl _) _).alloc (by simp) _).alloc (by simp <;> omega) _⟩
  simp [results, Try.results45, go_sem]

set_option maxHeartbeats 1000000 in
theorem And_err {w : World} {a : Option Addr} {err : Int} (v : Value) (h : ∀ w1, Below w.heap.size w w1 → AnsErr w1 (.pointer a) v err) : Calls Try.prog 21 #[.pointer a, v] w fun e w' => ∃ r, e = .returned (.tuple #[r, .int .i64 err]) ∧ Below w.heap.size w w' := by
  have hmf : ∀ (fn : Fn) (first cap : Array Value) (w : World), (Instr.makeFunc fn first cap).run Try.prog w = .ok (.func fn first cap) w := fun _ _ _ _ => rfl
  have hb : Below w.heap.size w (w.alloc (.cells #[.pointer a] 23)) := (Below.refl _ _).alloc (Nat.le_refl _) _
  have H := keep (h _ hb)
  have HB := keep hb
  clear h hb
  go_enter Try.func21, Try.ntmps21
  go_wp2_with fail
  refine (H.out _).mono ?_
  rintro e w' ⟨rfl, hb⟩
  have HB2 := keep (HB.out.trans (hb.mono HB.out.size))
  clear hb
  go_wp2
  go_ret2
  exact ⟨_, rfl, HB2.out⟩
set_option maxHeartbeats 1000000 in
theorem Or_err {w : World} {a : Option Addr} {err : Int} (v : Value) (h : ∀ w1, Below w.heap.size w w1 → AnsErr w1 (.pointer a) v err) : Calls Try.prog 19 #[.pointer a, v] w fun e w' => ∃ r, e = .returned (.tuple #[r, .int .i64 err]) ∧ Below w.heap.size w w' := by
  have hmf : ∀ (fn : Fn) (first cap : Array Value) (w : World), (Instr.makeFunc fn first cap).run Try.prog w = .ok (.func fn first cap) w := fun _ _ _ _ => rfl
  have hb : Below w.heap.size w (w.alloc (.cells #[.pointer a] 23)) := (Below.refl _ _).alloc (Nat.le_refl _) _
  have H := keep (h _ hb)
  have HB := keep hb
  clear h hb
  go_enter Try.func19, Try.ntmps19
  go_wp2_with fail
  refine (H.out _).mono ?_
  rintro e w' ⟨rfl, hb⟩
  have HB2 := keep (HB.out.trans (hb.mono HB.out.size))
  clear hb
  go_wp2
  go_ret2
  exact ⟨_, rfl, HB2.out⟩

/-- Of these three refs there is no answer. -/
def IteErr (w : World) (a : Option Addr) (x y z : Int) (err : Int) : Prop := ∀ w1, Below w.heap.size w w1 → AnsErr (w1.alloc (.cells #[.int .i64 x, .int .i64 y, .int .i64 z] 25)) (.pointer a) (.slice (some ⟨w1.heap.size, 0, none⟩) 3 3) err

set_option maxHeartbeats 1000000 in
theorem Ite_err {w : World} {a : Option Addr} {err : Int} {x y z : Int} (h : IteErr w a x y z err) :
    Calls Try.prog 23 #[.pointer a, .int .i64 x, .int .i64 y, .int .i64 z] w fun e w' => e = .returned (.tuple #[.int .i64 0, .int .i64 err]) ∧ Below w.heap.size w w' := by
  have hmf : ∀ (fn : Fn) (first cap : Array Value) (w : World), (Instr.makeFunc fn first cap).run Try.prog w = .ok (.func fn first cap) w := fun _ _ _ _ => rfl
  have hb : Below w.heap.size w (w.alloc (.cells #[.pointer a] 23)) := (Below.refl _ _).alloc (Nat.le_refl _) _
  have hb2 : Below w.heap.size w ((w.alloc (.cells #[.pointer a] 23)).alloc (.cells #[.int .i64 x, .int .i64 y, .int .i64 z] 25)) := hb.alloc hb.size _
  have hs : (w.alloc (.cells #[.pointer a] 23)).heap.size = w.heap.size + 1 := by simp
  have h1 := h _ hb
  rw [hs] at h1
  have H := keep h1
  have HB := keep hb2
  clear h h1 hb hb2 hs
  go_enter Try.func23, Try.ntmps23
  go_wp2_with fail
  refine (H.out _).mono ?_
  rintro e w' ⟨rfl, hb⟩
  have HB2 := keep (HB.out.trans (hb.mono HB.out.size))
  clear hb
  go_wp2
  go_ret2
  exact ⟨rfl, HB2.out⟩
set_option maxHeartbeats 400000 in
theorem Not_err {w : World} {a : Option Addr} {err : Int} {x : Int} (h : IteErr w a x 0 1 err) :
    Calls Try.prog 20 #[.pointer a, .int .i64 x] w fun e w' => ∃ r, e = .returned (.tuple #[r, .int .i64 err]) ∧ Below w.heap.size w w' := by
  have H := keep (Ite_err h)
  clear h
  go_enter Try.func20, Try.ntmps20
  go_wp2_with fail
  refine H.out.mono ?_
  rintro e w' ⟨rfl, hb⟩
  go_wp2
  go_ret2
  exact ⟨_, rfl, hb⟩
set_option maxHeartbeats 400000 in
theorem Diff_err {w : World} {a : Option Addr} {err : Int} {x y : Int} (h : IteErr w a y 0 x err) :
    Calls Try.prog 22 #[.pointer a, .int .i64 x, .int .i64 y] w fun e w' => ∃ r, e = .returned (.tuple #[r, .int .i64 err]) ∧ Below w.heap.size w w' := by
  have H := keep (Ite_err h)
  clear h
  go_enter Try.func22, Try.ntmps22
  go_wp2_with fail
  refine H.out.mono ?_
  rintro e w' ⟨rfl, hb⟩
  go_wp2
  go_ret2
  exact ⟨_, rfl, hb⟩
theorem ite_err_no {w : World} {a : Option Addr} (h : Nobody w (.pointer a)) (x y z : Int) : IteErr w a x y z 4 := fun _ hb => answer_no ((h.below hb).below ((Below.refl _ _).alloc (Nat.le_refl _) _)) _
end Go.Proofs.Ytffngpdngjfcfaa
