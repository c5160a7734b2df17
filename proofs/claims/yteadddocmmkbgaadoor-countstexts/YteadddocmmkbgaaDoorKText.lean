/-
  Package counts: an element's text; Text of any set.
-/
import Derived.Test.YteadddocmmkbgaaDoorIULay
import Derived.Test.YteadddocmmkbgaaDoorJLay
import Derived.Test.YteadddocmmkbgaaDoorKListB
namespace Go.Proofs.YteadddocmmkbgaaDoor.Co
open Go.RowKit Go.Shelf
attribute [local go_sem] Oper.semAt_some

/-- The table of the powers of ten stands in memory as it started. -/
abbrev PowTab (w : World) : Prop := Lib.TabIs Tryd.prog w "internal/strconv.uint64pow10" .u64 Lib.pow10Tab
theorem PowTab.below {w w' : World} (h : PowTab w) (hb : Below w.heap.size w w') : PowTab w' := by
  unfold PowTab Lib.TabIs World.var? at *
  cases hg : Tryd.prog.globalNamed "internal/strconv.uint64pow10" with
  | none => rw [hg] at h; cases h
  | some g =>
    rw [hg] at h
    simp only [Option.bind_some] at h ⊢
    have hlt : g < w.heap.size := by
      by_cases q : g < w.heap.size
      · exact q
      · rw [Array.getElem?_eq_none (by omega)] at h; cases h
    rw [hb.block g hlt]
    exact h
theorem below_grow_drewN (w : World) (k : Nat) (os : Array Obj) : Below w.heap.size w (Sort.grow (w.drewN k) os) := ⟨rfl, rfl, rfl, by simp [Sort.grow, World.drewN], fun _ hi => Sort.heap_grow_old (w.drewN k) os hi⟩
abbrev tx (l : List UInt8) : ByteArray := ⟨l.toArray⟩
theorem Itoa_any (n : Nat) (hn : n ≤ 2147483647) {w : World} (h : PowTab w) : Calls Tryd.prog 51 #[.int .i64 n] w fun e w' => e = .returned (.string (tx (Lib.decDigits n))) ∧ Below w.heap.size w w' := by
  refine (Any.strconv_Itoa Tryd.laysItoa n (by omega) (by omega) w h).mono ?_
  rintro e w' ⟨rfl, k, os, rfl⟩
  refine ⟨?_, below_grow_drewN w k os⟩
  unfold Lib.itoa
  rw [if_neg (by omega)]
  rfl
theorem dec_len {n : Nat} (h : n ≤ 63) : (Lib.decDigits n).length ≤ 2 := by
  have key : ∀ k : Fin 64, (Lib.decDigits k.1).length ≤ 2 := by decide +kernel
  exact key ⟨n, by omega⟩
/-- An element's text. -/
def wordT (t i : Nat) : List UInt8 := if i = t + 1 then 62 :: Lib.decDigits t else Lib.decDigits i
set_option maxRecDepth 20000 in
set_option maxHeartbeats 1000000 in
theorem text_any {t i : Nat} (ht : t ≤ 62) (hi : i ≤ t + 1) {w : World} (h : PowTab w) : Calls Tryd.prog 41 #[.int .i64 (t : Int), .int .i64 (i : Int)] w fun e w' => e = .returned (.string (tx (wordT t i))) ∧ Below w.heap.size w w' := by
  have HM := hid (fun w' => more_any ht w')
  have HP := hid h
  clear h
  by_cases he : i = t + 1
  · have HI := hid (Itoa_any t (by omega) HP.out)
    have HW := hid (show wordT t i = 62 :: Lib.decDigits t by unfold wordT; rw [if_pos he])
    have heI : ((i : Int) == (t : Int) + 1) = true := by rw [he]; simp
    have hlen : ¬ 9223372036854775807 < 1 + (Lib.decDigits t).length := by have := dec_len (n := t) (by omega); omega
    clear he
    go_enter Tryd.func41, Tryd.ntmps41
    go_wp2_with fail
    refine (HM.out _).mono ?_
    rintro e w' ⟨rfl, e'⟩
    have ew := e'.symm
    clear e'
    subst ew
    go_wp2_with fail
    refine HI.out.mono ?_
    rintro e w1 ⟨rfl, hb1⟩
    go_wp2
    go_ret
    refine ⟨?_, hb1⟩
    rw [HW.out]
    rfl
  · have HI := hid (Itoa_any i (by omega) HP.out)
    have HW := hid (show wordT t i = Lib.decDigits i by unfold wordT; rw [if_neg he])
    have heI : ((i : Int) == (t : Int) + 1) = false := by simp; omega
    clear he
    go_enter Tryd.func41, Tryd.ntmps41
    go_wp2_with fail
    refine (HM.out _).mono ?_
    rintro e w' ⟨rfl, e'⟩
    have ew := e'.symm
    clear e'
    subst ew
    go_wp2_with fail
    refine HI.out.mono ?_
    rintro e w1 ⟨rfl, hb1⟩
    go_wp2
    go_ret
    exact ⟨by rw [HW.out]; rfl, hb1⟩

theorem Tryd.extraJoin : Builder.Extra Tryd.prog Tryd.laysJoin_ren := {
  sizeBuilder := by kernel_rfl
  liesBuilder := by kernel_rfl
  t5 := Tryd.underlying5
  a5 := Tryd.isAgg5
  z5 := Tryd.sizeOf5
  v5 := Tryd.zeroValue5
  infoByte := by kernel_rfl
  cellsByte := by kernel_rfl
  sizeByte := by kernel_rfl
  neB5 := by decide }
theorem Tryd.fJoin : Tryd.laysJoin_ren.f 156 = 42 := by kernel_rfl
/-- The texts of some elements; a set's text. -/
def wordsOf {t : Nat} (l : List (El t)) : List (List UInt8) := l.map fun x => wordT t x.1
theorem wordsOf_snoc {t : Nat} (l : List (El t)) (x : El t) : wordsOf (l ++ [x]) = wordsOf l ++ [wordT t x.1] := by simp [wordsOf]
def txtL (t c : Nat) : List UInt8 := 123 :: (Lib.join ((els t c).map (wordT t)) [44] ++ [125])
def textP (t : Int) (c : Nat) : List UInt8 × Int := if chkE t [c] = 0 then (txtL t.toNat c, 0) else ([], chkE t [c])
theorem Tryd.infoStr : (Tryd.prog.info? 9).map (fun i => (i.zero, i.size, i.bytes)) = some (some (.string ⟨#[]⟩), 1, 16) := by kernel_rfl

theorem row_ne (v : Value) : v.ownBlock = none ∨ v.ownBlock ≠ none := by
  cases h : v.ownBlock with
  | none => exact Or.inl rfl
  | some g => exact Or.inr (by simp)

/-- append, under a name that the walk leaves. -/
def appS (ts : Array TypeId) (ty : TypeId) (args : Array Value) : Sem Value := Builtin.append_ ts ty args
theorem app_fold {ts : Array TypeId} {ty : TypeId} {args : Array Value} : Builtin.append_ ts ty args = appS ts ty args := rfl
/-- A text is appended to a row of texts of one's own, behind a call. -/
theorem app_str {W w1 : World} {n₀ B b0 b6 b7 : Nat} {v : Value} {n : Nat} {xs : List Value} {s : ByteArray} {i0 : TypeInfo} {v0 v6 v7 : Value}
    (hv : Boxed W B 66 v) (hrow : W.ownsRow n₀ 9 1 v n xs) (e0 : Boxed W b0 3 v0) (e6 : Boxed W b6 53 v6) (e7 : Boxed W b7 24 v7)
    (hb : Below W.drew.heap.size W.drew w1) (hi : Tryd.prog.info? 9 = some i0) (hz0 : i0.zero = some (.string ⟨#[]⟩)) (hz1 : i0.size = 1) (hz2 : i0.bytes = 16) (hn : n < 64) (hn0 : n₀ ≤ W.heap.size) (hB : n₀ ≤ B) :
    ∃ g' cap' w2, (appS #[66, 66] 66 #[v, .slice (some ⟨w1.heap.size, 0, none⟩) 1 1]).run Tryd.prog (w1.alloc (.cells #[.string s] 9)) = .ok (.slice (some ⟨g', 0, none⟩) (n + 1) cap') w2 ∧
      Hid (Boxed (w2.setCell ⟨B, 0, none⟩ (.slice (some ⟨g', 0, none⟩) (n + 1) cap')) B 66 (.slice (some ⟨g', 0, none⟩) (n + 1) cap') ∧ (w2.setCell ⟨B, 0, none⟩ (.slice (some ⟨g', 0, none⟩) (n + 1) cap')).ownsRow n₀ 9 1 (.slice (some ⟨g', 0, none⟩) (n + 1) cap') (n + 1) (xs ++ [.string s])) ∧
      Hid (KeepsOthers W (w2.setCell ⟨B, 0, none⟩ (.slice (some ⟨g', 0, none⟩) (n + 1) cap'))) ∧ Hid (Below n₀ W (w2.setCell ⟨B, 0, none⟩ (.slice (some ⟨g', 0, none⟩) (n + 1) cap'))) ∧
      Hid (b0 ≠ B → Boxed (w2.setCell ⟨B, 0, none⟩ (.slice (some ⟨g', 0, none⟩) (n + 1) cap')) b0 3 v0) ∧
      Hid (b6 ≠ B → b7 ≠ B → Boxed (w2.setCell ⟨B, 0, none⟩ (.slice (some ⟨g', 0, none⟩) (n + 1) cap')) b6 53 v6 ∧ Boxed (w2.setCell ⟨B, 0, none⟩ (.slice (some ⟨g', 0, none⟩) (n + 1) cap')) b7 24 v7) ∧
      w1.cell? ⟨B, 0, none⟩ = some v ∧ (∀ o, (w1.alloc o).cell? ⟨B, 0, none⟩ = some v) ∧ w2.cell? ⟨B, 0, none⟩ = some v ∧ w2.frozen? ⟨B, 0, none⟩ = false := by
  have hg1 : W.grownBy w1 none := ⟨hb.os, hb.tape, hb.output, hb.size, fun k hk _ => hb.block k hk⟩
  have hv1 := hv.kept hg1 (by simp)
  have hrow1 := hrow.kept hg1 (row_ne _)
  have e0 := e0.kept hg1 (by simp)
  have e6 := e6.kept hg1 (by simp)
  have e7 := e7.kept hg1 (by simp)
  have hn1 : n₀ ≤ w1.heap.size := Nat.le_trans hn0 hg1.size
  obtain ⟨v', w2, hrun, hown', hgrow, _⟩ := run_append_own (P := Tryd.prog) (w1.alloc (.cells #[.string s] 9)) n₀ 66 66 9 i0 (.string ⟨#[]⟩) 1 16 Tryd.underlying66 hi hz0 hz1 hz2 rfl (by decide) v n xs (hrow1.alloc _) ⟨w1.heap.size, 0, none⟩ 1 1 [.string s] rfl (cell_one_new _ _ _) (by simp [Value.oneCell']) (by simp [maxLen]; omega) (by omega) (by simp; omega)
  obtain ⟨g', cap', rfl⟩ := ownsRow_succ hown'
  obtain ⟨hv3, hv2, hr2, hk2, hb2⟩ := hv1.appended (by decide) hrow1 hn1 hB hown' hgrow
  have k0 := (e0.alloc (.cells #[.string s] 9)).kept hgrow (e0.not_row (by decide) hrow1)
  have k6 := (e6.alloc (.cells #[.string s] 9)).kept hgrow (e6.not_row (by decide) hrow1)
  have k7 := (e7.alloc (.cells #[.string s] 9)).kept hgrow (e7.not_row (by decide) hrow1)
  have kW : KeepsOthers W w1 := KeepsOthers.of_grownBy hg1 (fun j o ej _ => by cases ej)
  exact ⟨g', cap', w2, hrun, ⟨hv2, hr2⟩, kW.trans hk2, (show Below n₀ W w1 from ⟨hb.os, hb.tape, hb.output, hb.size, fun k hk => hb.block k (Nat.lt_of_lt_of_le hk hn0)⟩).trans hb2,
    fun h => k0.other h _, fun h6 h7 => ⟨k6.other h6 _, k7.other h7 _⟩, hv1.cell, fun o => (hv1.alloc o).cell, hv3.cell, hv3.frozen⟩

theorem word_len {t i : Nat} (ht : t ≤ 62) (hi : i ≤ t + 1) : (wordT t i).length ≤ 3 := by
  unfold wordT
  split
  · have := dec_len (n := t) (by omega)
    simp; omega
  · have := dec_len (n := i) (by omega)
    omega
theorem join_len {t : Nat} (ht : t ≤ 62) (ys : List (El t)) : (Lib.join (wordsOf ys) [44]).length ≤ 4 * ys.length := by
  have key : ∀ (l : List (El t)) (x : El t), (Lib.joinTail [44] (wordsOf l)).length ≤ 4 * l.length := by
    intro l _
    induction l with
    | nil => simp [wordsOf, Lib.joinTail]
    | cons y l ih =>
      have := word_len ht y.2
      simp only [wordsOf, Lib.joinTail, List.map_cons, List.flatten_cons, List.length_append, List.length_cons, List.length_nil] at ih ⊢
      omega
  cases ys with
  | nil => simp [wordsOf, Lib.join_nil]
  | cons y l =>
    have h := key l y
    have := word_len ht y.2
    have e : Lib.join (wordsOf (y :: l)) [44] = wordT t y.1 ++ Lib.joinTail [44] (wordsOf l) := by
      simp only [wordsOf, List.map_cons]
      exact Lib.join_cons _ _ _
    rw [e, List.length_append, List.length_cons]
    omega
theorem join_any {W : World} {t g cap n₀ : Nat} {ys : List (El t)} (ht : t ≤ 62) (hrow : W.ownsRow n₀ 9 1 (.slice (some ⟨g, 0, none⟩) ys.length cap) ys.length ((wordsOf ys).map (fun l => Value.string (tx l)))) (h64 : ys.length ≤ 64) :
    Calls Tryd.prog 42 #[.slice (some ⟨g, 0, none⟩) ys.length cap, .string ⟨#[44]⟩] W fun e w' => e = .returned (.string (tx (Lib.join (wordsOf ys) [44]))) ∧ Below W.heap.size W w' := by
  have hl : ((wordsOf ys).map tx).length = ys.length := by simp [wordsOf]
  have hm : ((wordsOf ys).map tx).map (fun b => b.data.toList) = wordsOf ys := by rw [List.map_map]; simp [Function.comp_def]
  have hcap : ys.length ≤ cap := by
    rcases hrow.2 with ⟨e, _⟩ | ⟨g', cap', cur, e, _, _, h, _⟩
    · cases e
    · cases e; exact h
  have hlt : g < W.heap.size := by
    rcases hrow.2 with ⟨e, _⟩ | ⟨g', cap', cur, e, _, h, _⟩
    · cases e
    · cases e; exact (Array.getElem?_eq_some_iff.1 h).1
  have h := Any.strings_Join Tryd.laysJoin Tryd.extraJoin g 0 cap ((wordsOf ys).map tx) ⟨#[44]⟩ W (fun j x hx => by
    have hj : j < ys.length := by rw [← hl]; exact (List.getElem?_eq_some_iff.1 hx).1
    rw [hrow.cellAt (0 + j) (by omega), Nat.zero_add]
    rw [List.getElem?_map] at hx ⊢
    cases hw : (wordsOf ys)[j]? with
    | none => rw [hw] at hx; cases hx
    | some y => rw [hw] at hx; cases hx; rfl) hlt (by rw [hl]; omega) (by rw [hl]; exact hcap) (by
    show (Lib.join (((wordsOf ys).map tx).map (fun b => b.data.toList)) [44]).length ≤ _
    rw [hm]
    have := join_len ht ys
    omega)
  rw [Tryd.fJoin, hl] at h
  refine h.mono fun e w' ⟨he, hw⟩ => ⟨?_, hw⟩
  rw [he]
  show Ending.returned (Value.string ⟨(Lib.join (((wordsOf ys).map tx).map (fun b => b.data.toList)) [44]).toArray⟩) = _
  rw [hm]
attribute [local go_sem ↓] app_fold
set_option maxRecDepth 100000 in
set_option maxHeartbeats 2000000 in
theorem Text_any {t : Int} {c : Nat} {w : World} (h64 : c < 18446744073709551616) (hP : PowTab w) :
    Calls Tryd.prog 25 #[.int .i64 t, .int .u64 (c : Int)] w fun e w' => e = .returned (.tuple #[.string (tx (textP t c).1), .int .i64 (textP t c).2]) ∧ Below w.heap.size w w' := by
  have HC := hid (fun w' (b : Nat) (hb : Boxed w' b 24 (.int .u64 (c : Int))) => Check_any (t := t) (cap := 1) (n := 1) (l := [c]) rfl (by omega) (one_in hb) (by simpa using h64))
  obtain ⟨i0, hi, hz0, hz1, hz2⟩ := info_parts Tryd.infoStr
  refine (callsIn_wide (n := 9)).1 ?_
  refine callsIn_of_wp_marks Tryd.func25 rfl trivial ?_ rfl
  simp only [Tryd.ntmps25, List.size_toArray, List.length_cons, List.length_nil, Nat.reduceAdd, Nat.reduceSub, Array.replicate_succ, Array.replicate_zero, List.push_toArray, List.append_toArray, List.nil_append, List.cons_append]
  gi_wp2
  obtain ⟨W0, hW0⟩ : ∃ W0, (w.alloc (.cells #[.int .i64 t] 3)).alloc (.cells #[.int .u64 (c : Int)] 24) = W0 := ⟨_, rfl⟩
  have hB : Below w.heap.size w W0 := by rw [← hW0]; exact ((Below.refl _ w).alloc (Nat.le_refl _) _).alloc (by simp) _
  have b0 : Boxed W0 w.heap.size 3 (.int .i64 t) := by rw [← hW0]; repeat (first | exact boxed_new (by simp) | refine Boxed.alloc ?_ _)
  have b1 : Boxed W0 (w.heap.size + 1) 24 (.int .u64 (c : Int)) := by rw [← hW0]; repeat (first | exact boxed_new (by simp) | refine Boxed.alloc ?_ _)
  rw [hW0]
  clear hW0
  refine ⟨trivial, ?_⟩
  refine (callsIn_wide.2 (HC.out _ _ b1)).mono ?_
  rintro e W1 ⟨rfl, hb1⟩
  have hB := below_tr hB hb1
  have b0 := Boxed.on b0 hb1 b0.lt
  have c0 := b0.cell
  clear b1 hb1 HC
  by_cases h0 : chkE t [c] = 0
  · have HR := hid (show textP t c = (txtL t.toNat c, 0) by unfold textP; rw [if_pos h0])
    have hr := chk_range h0
    have hmay := chk_may h0 c (by simp)
    rw [h0]
    obtain ⟨m, rfl⟩ : ∃ m : Nat, t = (m : Int) := ⟨t.toNat, by omega⟩
    have hm : m ≤ 62 := by omega
    have HE := hid (fun w' => elements_any m c w')
    have c0' := (b0.alloc (.cells #[.slice none 0 0] 66)).cell
    gi_wp2_with (refine ⟨trivial, ?_⟩; gi_at_call 33; refine (callsIn_wide.2 (HE.out _)).mono ?_; rintro e w' ⟨rfl, rfl⟩)
    obtain ⟨W2, hW2⟩ : ∃ W2, ((W1.alloc (.cells #[.slice none 0 0] 66)).alloc (.cells #[.int .i64 (m : Int)] 53)).alloc (.cells #[.int .u64 (c : Int)] 24) = W2 := ⟨_, rfl⟩
    have hB2 : Below W1.heap.size W1 W2 := by rw [← hW2]; exact (((Below.refl _ W1).alloc (Nat.le_refl _) _).alloc (by simp) _).alloc (by simp; omega) _
    have d5 : Boxed W2 W1.heap.size 66 (.slice none 0 0) := by rw [← hW2]; repeat (first | exact boxed_new (by simp) | refine Boxed.alloc ?_ _)
    have d6 : Boxed W2 (W1.heap.size + 1) 53 (.int .i64 (m : Int)) := by rw [← hW2]; repeat (first | exact boxed_new (by simp) | refine Boxed.alloc ?_ _)
    have d7 : Boxed W2 (W1.heap.size + 1 + 1) 24 (.int .u64 (c : Int)) := by rw [← hW2]; repeat (first | exact boxed_new (by simp) | refine Boxed.alloc ?_ _)
    rw [hW2]
    clear hW2 c0 c0'
    have z0 := b0.lt
    have b0 := Boxed.on b0 hB2 b0.lt
    have hB3 := below_tr hB hB2
    have z1 := hB.size
    have z6 := hB2.size
    have z7 := d7.lt
    refine wpIn_rangeFunc_ownG rfl (by omega) (gf := 48) (lb := #[.pointer (some ⟨W1.heap.size + 1, 0, none⟩), .pointer (some ⟨W1.heap.size + 1 + 1, 0, none⟩)]) rfl trivial (enters_of Tryd.func48 (by kernel_rfl) rfl)
      (els_stops (n := 9 - 1) (by omega) hm h64 W2 d6 d7) KBox.trans (fun W l o o' _ h hc _ => kBox_b W l o o' h hc) (Below.refl _ _) (fun _ => rfl)
      (fun pre W => (∃ v, Boxed W W1.heap.size 66 v ∧ W.ownsRow w.heap.size 9 1 v pre.length ((wordsOf pre).map (fun l => Value.string (tx l))) ∧ True) ∧ ((Boxed W (W1.heap.size + 1) 53 (.int .i64 (m : Int)) ∧ Boxed W (W1.heap.size + 1 + 1) 24 (.int .u64 (c : Int))) ∧ Boxed W w.heap.size 3 (.int .i64 (m : Int))) ∧ Below w.heap.size w W)
      (fun _ _ _ => False)
      (OwnFrom.and (Own.from (holdsRow_own w.heap.size W1.heap.size 66 9 1 (fun pre => pre.length) (fun pre => (wordsOf pre).map (fun l => Value.string (tx l))) (fun pre v => True)) _) (OwnFrom.and (OwnFrom.and (OwnFrom.and (Own.from (boxed_own _ _ (fun _ => _)) _) (Own.from (boxed_own _ _ (fun _ => _)) _)) (Own.from (boxed_own _ _ (fun _ => _)) _)) (ownFrom_below (Nat.le_refl _) (by omega))))
      (fun _ _ _ _ _ hs _ _ => hs)
      ⟨⟨_, d5, World.ownsRow_nil _ _ _ _, trivial⟩, ⟨⟨d6, d7⟩, b0⟩, hB3⟩ ?a1 ?assign ?body ?done ?stop
    case assign =>
      intro l x W K hK
      gi_wp2
      exact hK
    case body =>
      rintro l pre x W ⟨⟨v, hv, hrow, _⟩, ⟨⟨e6, e7⟩, e0⟩, hB1⟩ hlt
      have hc := hv.cell
      have hc0 := e0.cell
      have hmx : Tryd.prog.follows .mixedOrders = true := by kernel_rfl
      have HT := hid (text_any (t := m) (i := x.1) hm x.2 (w := W.drew) (hP.below hB1.drew))
      have HB1 := hid hB1
      have hB0 := hB1.size
      have hle : w.heap.size ≤ W1.heap.size := z1
      have HV := hid hv
      have HROW := hid hrow
      have HE0 := hid e0
      have HE6 := hid e6
      have HE7 := hid e7
      clear hrow hB1
      gi_wp2
      gi_region_with_o (refine ⟨trivial, ?_⟩; gi_at_call 41; refine (CallsIn.inRound l (callsIn_wide.2 HT.out)).mono ?_; rintro e w1 ⟨rfl, hb1⟩; obtain ⟨g', cap', w2, hrun, H1, H2, H3, H4, H5, cc1, cc2, cc3, cf⟩ := app_str (s := tx (wordT m x.1)) HV.out HROW.out HE0.out HE6.out HE7.out hb1 hi hz0 hz1 hz2 hlt hB0 hle; clear hb1)
      all_goals gi_wp2
      all_goals exact ⟨H2.out.from _, kbox_of HE6.out HE7.out (H5.out (by omega) (by omega)).1 (H5.out (by omega) (by omega)).2, ⟨_, H1.out.1, by rw [wordsOf_snoc, List.length_append, List.map_append]; exact H1.out.2, trivial⟩, ⟨H5.out (by omega) (by omega), H4.out (by have := HE0.out.lt; omega)⟩, HB1.out.trans H3.out⟩
    case done =>
      rintro D ys W hD hS ⟨⟨v, hv, hrow, _⟩, ⟨⟨e6, e7⟩, e0⟩, hB1⟩ hK
      have hy : ys ≠ [] := by
        rintro rfl
        obtain ⟨k, hk⟩ := bit_of_ne (may_ne hmay)
        have : k ∈ els m c := mem_els.2 ⟨bit_lt (may_lt hmay) hk, hk⟩
        rw [← hS] at this
        cases this
      obtain ⟨k, hk⟩ : ∃ k, ys.length = k + 1 := ⟨ys.length - 1, by have := List.length_pos_iff.2 hy; omega⟩
      have hk64 : ys.length ≤ 64 := by
        have := upTo_len c (m + 2)
        have e : ys.length = (els m c).length := by rw [← hS, List.length_map]
        have e2 : els m c = upTo c (m + 2) := rfl
        rw [e, e2]; omega
      rw [hk] at hrow
      obtain ⟨g, cap, rfl⟩ := ownsRow_succ hrow
      have hc := hv.cell
      have HJ := hid (join_any (W := W) (ys := ys) hm (g := g) (cap := cap) (n₀ := w.heap.size) (by rw [hk]; exact hrow) hk64)
      rw [hk] at HJ
      have HS := hid hS
      have HK := hid hk
      have hl1 : ¬ 9223372036854775807 < 1 + (Lib.join (wordsOf ys) [44]).length := by have := join_len hm ys; omega
      have hl2 : ¬ 9223372036854775807 < 1 + (Lib.join (wordsOf ys) [44]).length + 1 := by have := join_len hm ys; omega
      clear hS hk hy hrow
      gi_wp2_with (refine ⟨trivial, ?_⟩; gi_at_call 42; refine (callsIn_wide.2 HJ.out).mono ?_; rintro e W3 ⟨rfl, hb3⟩)
      have hK3 : W3.heap[D]? = some (.deferred (some [])) := (hb3.block D (Array.getElem?_eq_some_iff.1 hK).1).trans hK
      have hB4 := below_tr hB1 hb3
      refine ⟨by simp, .inl ⟨_, _, rfl, run_takeDeferred hK3, ?_⟩⟩
      refine ⟨_, results_tmp2 rfl _ _ _, ?_, hB4.trans (belowK_b (w := w) (Nat.le_refl _) W3 D _ _ (by omega) hK3 rfl rfl)⟩
      rw [HR.out]
      have hw : wordsOf ys = (els m c).map (wordT m) := by rw [← HS.out, List.map_map]; rfl
      show Ending.returned (Value.tuple #[Value.string _, Value.int .i64 0]) = _
      congr 4
      rw [hw]
      refine congrArg _ (ByteArray.ext ?_)
      show _ = (txtL m c).toArray
      simp [txtL]
    case stop =>
      rintro D j pre W hD hS h hK
      exact h.elim
  · have h0' : (chkE t [c] == 0) = false := by simpa using h0
    have HR := hid (show textP t c = ([], chkE t [c]) by unfold textP; rw [if_neg h0])
    gi_wp2
    exact ⟨_, results_tmp2 rfl _ _ _, by rw [HR.out]; rfl, hB⟩
end Go.Proofs.YteadddocmmkbgaaDoor.Co
