/-
  The document's part: a part's stamp.
  A region that draws its order, walked by hand along one way: operations that only read are taken first, those that are passed over too.
  The document's number: digits, loosely.
  stampOf: the stamp of a part, if it has one.
  strconv.ParseUint of any text.
-/
import Derived.Shelf.Pu.ErrVarParseUint
import Derived.Test.YtibbbjikehkbmabDoorTLayC
import Derived.Test.YtibbbjikehkbmabDoorGCutAnd
import Derived.Test.YtibbbjikehkbmabDoorGMathAnd
import Derived.Deep.RegionHeld3
namespace Go.Proofs.YtibbbjikehkbmabDoor.Ve
open Go.RowKit

theorem Tryd.fPu : Tryd.laysPu_ren.f 14 = 44 := by kernel_rfl
/-- The two errors of strconv stand in memory as they started. -/
def ErrAt (name : String) (w : World) : Prop := ∃ tp p, w.var? Tryd.prog name = some #[.iface tp p]
theorem ErrAt.below {name : String} {w w' : World} (h : ErrAt name w) (hb : Below w.heap.size w w') : ErrAt name w' := by
  obtain ⟨tp, p, h⟩ := h
  refine ⟨tp, p, ?_⟩
  unfold World.var? at *
  cases hg : Tryd.prog.globalNamed name with
  | none => rw [hg] at h; cases h
  | some g =>
    rw [hg] at h
    simp only [Option.bind_some] at h ⊢
    have hlt : g < w.heap.size := by
      by_cases q : g < w.heap.size
      · exact q
      · rw [Array.getElem?_eq_none (by omega)] at h; cases h
    rw [hb.block g hlt]
    exact h
/-- What the readers want of memory. -/
def Tabs (w : World) : Prop := PowTab w ∧ ErrAt "strconv.ErrSyntax" w ∧ ErrAt "strconv.ErrRange" w
theorem Tabs.below {w w' : World} (h : Tabs w) (hb : Below w.heap.size w w') : Tabs w' := ⟨h.1.below hb, h.2.1.below hb, h.2.2.below hb⟩
/-- How ParseUint ends. -/
def PuQ (s : List UInt8) (u : Nat) (er : Value) : Prop := (er = .nilIface ∧ Lib.parseUintB 64 s = .ok u) ∨ ((∃ t p, er = .iface t p) ∧ ∀ n, Lib.parseUintB 64 s ≠ .ok n)
theorem ParseUint_any (s : List UInt8) (hs : s.length ≤ 281474976710656) {w : World} (h : Tabs w) : Calls Tryd.prog 44 #[.string (txV s), .int .i64 10, .int .i64 64] w fun e w' => ∃ u er, e = .returned (.tuple #[.int .u64 (u : Nat), er]) ∧ Hid (PuQ s u er) ∧ Below w.heap.size w w' := by
  have hz : (txV s).size ≤ 281474976710656 := by rw [txV_size]; exact hs
  have hd : (txV s).data.toList = s := rfl
  cases hp : Lib.parseUintB 64 s with
  | ok u =>
    have hh := Any.strconv_ParseUint_10_at64_ok Tryd.laysPu (txV s) (by omega) u (by rw [hd]; exact hp) w
    rw [Tryd.fPu] at hh
    refine hh.mono fun e w' ⟨he, hw⟩ => ⟨u, .nilIface, he, Or.inl ⟨rfl, hp⟩, ?_⟩
    rcases hw with rfl | rfl
    · exact Below.refl _ _
    · exact Lib.bytesWorld_below _ _ _
  | «syntax» =>
    obtain ⟨tp, p, hv⟩ := h.2.1
    have hh := Any.strconv_ParseUint_10_at64_syntax_var Tryd.laysPu (txV s) hz (by rw [hd]; exact hp) tp p w hv
    rw [Tryd.fPu] at hh
    refine hh.mono fun e w' ⟨N, he, _, _, hb⟩ => ⟨0, _, he, Or.inr ⟨⟨_, _, rfl⟩, fun n q => by rw [hp] at q; cases q⟩, hb⟩
  | range =>
    obtain ⟨tp, p, hv⟩ := h.2.2
    have hh := Any.strconv_ParseUint_10_at64_range_var Tryd.laysPu (txV s) hz (by rw [hd]; exact hp) tp p w hv
    rw [Tryd.fPu] at hh
    refine hh.mono fun e w' ⟨N, he, _, _, hb⟩ => ⟨18446744073709551615, _, he, Or.inr ⟨⟨_, _, rfl⟩, fun n q => by rw [hp] at q; cases q⟩, hb⟩
end Go.Proofs.YtibbbjikehkbmabDoor.Ve
namespace Go.Proofs.YtibbbjikehkbmabDoor.Ve
open Go.RowKit

/-- What a cut at the first colon tells of a part. -/
def CutQ (s l r : List UInt8) : Prop := (∀ x, isP s x → l = Lib.decDigits x.1.toNat ∧ r = Lib.decDigits x.2) ∧ l.length ≤ s.length ∧ r.length ≤ s.length
theorem Cut_any (s : List UInt8) (hs : s.length ≤ 281474976710656) (w : World) : Calls Tryd.prog 43 #[.string (txV s), .string ⟨#[58]⟩] w fun e w' => ∃ l r f, e = .returned (.tuple #[.string (txV l), .string (txV r), .bool f]) ∧ Hid (CutQ s l r) ∧ ∃ n, w' = w.drewN n := by
  rcases split_at s 58 with h | ⟨p, t, rfl, hp⟩
  · exact (Cut_miss s 58 w h).mono fun e w' ⟨he, hw⟩ => ⟨s, [], false, he, ⟨fun x hx => absurd rfl (h _ (isP_has hx)), Nat.le_refl _, Nat.zero_le _⟩, hw⟩
  · rw [List.length_append, List.length_cons] at hs
    exact (Cut_hit p t 58 w hp (by unfold maxLen; omega)).mono fun e w' ⟨he, hw⟩ => ⟨p, t, true, he, ⟨fun x hx => isP_cut hp hx, by rw [List.length_append]; omega, by rw [List.length_append, List.length_cons]; omega⟩, hw⟩
/-- How stampOf ends. -/
def PartQ (s : List UInt8) (d : Int) (u : Nat) (ok : Bool) : Prop := (ok = true ∧ partO s = some (d, u)) ∨ (ok = false ∧ partO s = none)
theorem part_bad {s l r : List UInt8} (hc : CutQ s l r) (h : (∀ n, Lib.parseUintB 64 l ≠ .ok n) ∨ (∀ n, Lib.parseUintB 64 r ≠ .ok n) ∨ ∃ n, Lib.parseUintB 64 l = .ok n ∧ 256 ≤ n) : partO s = none := by
  refine partO_none fun x hx => ?_
  obtain ⟨e1, e2⟩ := hc.1 x hx
  have hd := hx.1
  have p1 := parseB_dec (u := x.1.toNat) (by omega)
  have p2 := parseB_dec hx.2.1
  rw [← e1] at p1
  rw [← e2] at p2
  rcases h with h | h | ⟨n, h, hn⟩
  · exact h _ p1
  · exact h _ p2
  · rw [p1] at h
    simp only [Lib.NumEnd.ok.injEq] at h
    omega
theorem part_two {s l r : List UInt8} {a b : Nat} (hc : CutQ s l r) (h1 : Lib.parseUintB 64 l = .ok a) (h2 : Lib.parseUintB 64 r = .ok b) (h256 : a < 256) : (stT (a, b) = s → partO s = some ((a : Int), b)) ∧ (stT (a, b) ≠ s → partO s = none) := by
  have hb : b < 18446744073709551616 := by have := Lib.parseUintB_le h2; omega
  refine ⟨fun h => partO_some ⟨by simp only; omega, hb, by unfold stS; simpa using h⟩, fun h => partO_none fun x hx => h ?_⟩
  obtain ⟨e1, e2⟩ := hc.1 x hx
  have hd := hx.1
  have p1 := parseB_dec (u := x.1.toNat) (by omega)
  have p2 := parseB_dec hx.2.1
  rw [← e1, h1] at p1
  rw [← e2, h2] at p2
  simp only [Lib.NumEnd.ok.injEq] at p1 p2
  have := hx.2.2
  unfold stS at this
  rw [p1, p2]
  exact this
theorem keep_pair {W : World} {g h : Nat} (hgh : h ≠ g) {x y : Option Value} {u v : Value} (k : W.cell? ⟨h, 0, none⟩ = x ∧ W.cell? ⟨h, 1, none⟩ = y) : ((W.setCell ⟨g, 0, none⟩ u).setCell ⟨g, 1, none⟩ v).cell? ⟨h, 0, none⟩ = x ∧ ((W.setCell ⟨g, 0, none⟩ u).setCell ⟨g, 1, none⟩ v).cell? ⟨h, 1, none⟩ = y := by
  have e : ((W.setCell ⟨g, 0, none⟩ u).setCell ⟨g, 1, none⟩ v).heap[h]? = W.heap[h]? := by rw [Below.heap_setCell _ _ _ _ hgh, Below.heap_setCell _ _ _ _ hgh]
  exact ⟨(World.cell?_of_block (a := ⟨h, 0, none⟩) e).trans k.1, (World.cell?_of_block (a := ⟨h, 1, none⟩) e).trans k.2⟩
theorem set_pair {X : World} {g : Nat} {c0 c1 : Value} {t : TypeId} (h : X.heap[g]? = some (.cells #[c0, c1] t (0, 0))) (d u : Value) : ((X.setCell ⟨g, 0, none⟩ d).setCell ⟨g, 1, none⟩ u).cell? ⟨g, 0, none⟩ = some d ∧ ((X.setCell ⟨g, 0, none⟩ d).setCell ⟨g, 1, none⟩ u).cell? ⟨g, 1, none⟩ = some u ∧ ((X.setCell ⟨g, 0, none⟩ d).setCell ⟨g, 1, none⟩ u).heap[g]? = some (.cells #[d, u] t (0, 0)) := by
  have hv : ((X.setCell ⟨g, 0, none⟩ d).setCell ⟨g, 1, none⟩ u).heap[g]? = some (.cells #[d, u] t (0, 0)) := by
    rw [block_set (o := 1) _ (block_set (o := 0) _ h)]; rfl
  exact ⟨by rw [cell_at hv]; rfl, by rw [cell_at hv]; rfl, hv⟩
set_option maxRecDepth 20000 in
set_option maxHeartbeats 8000000 in
theorem stampOf_any (s : List UInt8) (hs : s.length ≤ 281474976710656) {w : World} (hw : Tabs w) : Calls Tryd.prog 30 #[.string (txV s)] w fun e w' => ∃ (d : Int) (u : Nat) (ok : Bool), e = .returned (.tuple #[.agg #[.int .i64 d, .int .u64 (u : Int)], .bool ok]) ∧ Hid (PartQ s d u ok) ∧ Below w.heap.size w w' := by
  have HT := hid (fun W (hb : Below w.heap.size w W) => hw.below hb)
  have HC := hid (Cut_any s hs)
  have HS := hid hs
  clear hs hw
  go_enter Tryd.func30, Tryd.ntmps30
  go_wp2_with fail
  refine (HC.out _).mono ?_
  rintro e w1 ⟨l, r, f, rfl, HQ, n1, rfl⟩
  obtain ⟨W1, hW1⟩ : ∃ W1, W1 = (w.alloc (.cells #[.int .i64 0, .int .u64 0] 33)).drewN n1 := ⟨_, rfl⟩
  have HB1 := hid (show Below w.heap.size w W1 by rw [hW1]; exact below_drewN (below_al _ _))
  have HX1 := hid (show W1.heap[w.heap.size]? = some (.cells #[.int .i64 0, .int .u64 0] 33 (0, 0)) by rw [hW1]; exact new_0 _ _)
  rw [← hW1]
  clear hW1 HC
  have HP1 := hid (ParseUint_any l (Nat.le_trans HQ.out.2.1 HS.out) (HT.out _ HB1.out))
  go_wp2_with fail
  refine HP1.out.mono ?_
  rintro e W2 ⟨a, er, rfl, HE, hb2⟩
  have HX2 := hid (below_block hb2 HX1.out (lt_of_block HX1.out))
  have HB2 := hid (below_tr HB1.out hb2)
  clear hb2 HP1 HX1
  rcases HE.out with ⟨he, hp1⟩ | ⟨⟨te, pe, he⟩, hno⟩
  · subst he
    by_cases h256 : a < 256
    · have hI : ¬ (256 : Int) ≤ (a : Int) := by omega
      have a0 : (0 : Int) ≤ (a : Int) := by omega
      have hwr : IntKind.i64.wrap (a : Int) = (a : Int) := by rw [IntKind.wrap_i64]; omega
      have HL := hid hp1
      have H256 := hid h256
      have HP2 := hid (ParseUint_any r (Nat.le_trans HQ.out.2.2 HS.out) (HT.out _ HB2.out))
      clear hp1 h256
      go_wp2_with fail
      refine HP2.out.mono ?_
      rintro e W3 ⟨b, er, rfl, HE2, hb3⟩
      have HX3 := hid (below_block hb3 HX2.out (lt_of_block HX2.out))
      have HB3 := hid (below_tr HB2.out hb3)
      clear hb3 HP2 HX2
      rcases HE2.out with ⟨he, hp2⟩ | ⟨⟨te, pe, he⟩, hno⟩
      · subst he
        have HR := hid hp2
        have hb64 : b < 18446744073709551616 := by have := Lib.parseUintB_le hp2; omega
        have HTX := hid (fun W (hb : Below w.heap.size w W) => textOf_any a b H256.out hb64 (HT.out W hb).1)
        clear hp2
        obtain ⟨q1, q2⟩ := part_two HQ.out HL.out HR.out H256.out
        have HQ1 := hid q1
        have HQ2 := hid q2
        have HX8 := hid (new_old W3 (.cells #[.int .i64 (a : Int), .int .u64 (b : Int)] 33) HX3.out)
        have HB8 := hid (HB3.out.alloc HB3.out.size (.cells #[.int .i64 (a : Int), .int .u64 (b : Int)] 33))
        have c0 : (W3.alloc (.cells #[.int .i64 (a : Int), .int .u64 (b : Int)] 33)).cell? ⟨W3.heap.size, 0, none⟩ = some (.int .i64 a) := cell_news 0
        have c1 : (W3.alloc (.cells #[.int .i64 (a : Int), .int .u64 (b : Int)] 33)).cell? ⟨W3.heap.size, 1, none⟩ = some (.int .u64 b) := cell_news 1
        have hne : W3.heap.size ≠ w.heap.size := by have := lt_of_block HX3.out; omega
        clear q1 q2
        obtain ⟨tt, htt⟩ : ∃ tt, tt = stT (a, b) := ⟨_, rfl⟩
        rw [← htt] at HQ1 HQ2 HTX
        go_wp2
        go_region_held2 (fun W => W.cell? ⟨W3.heap.size, 0, none⟩ = some (.int .i64 a) ∧ W.cell? ⟨W3.heap.size, 1, none⟩ = some (.int .u64 b)) (first | exact ⟨c0, c1⟩ | exact hS4 | exact keep_pair hne hS4) (first | (go_at_call 26; refine (HTX.out _ (by exact HB8.out.drew)).mono ?_; rintro en w4 ⟨rfl, hb4⟩; have B4 := hid (below_tr (Below.refl _ _).drew hb4); have hS4 := And.intro ((B4.out.cell (block_oldS c0)).trans c0) ((B4.out.cell (block_oldS c1)).trans c1); have HX4 := hid (below_block B4.out HX8.out (lt_of_block HX8.out)); have x0 : w4.cell? ⟨w.heap.size, 0, none⟩ = some (.int .i64 0) := (cell_at HX4.out).trans rfl; have x1 : w4.cell? ⟨w.heap.size, 1, none⟩ = some (.int .u64 0) := (cell_at HX4.out).trans rfl; have f0 := free_of (o := 0) HX4.out; have f1 := free_of (o := 1) HX4.out; clear hb4))
        have x0 := x0
        have x1 := x1
        have f0 := f0
        have f1 := f1
        have HB4 := hid (below_tr HB8.out B4.out)
        have HBF := hid ((HB4.out.setCell (p := ⟨w.heap.size, 0, none⟩) (Nat.le_refl _) (.int .i64 (a : Int))).setCell (p := ⟨w.heap.size, 1, none⟩) (Nat.le_refl _) (.int .u64 (b : Int)))
        obtain ⟨v0, v1, -⟩ := set_pair HX4.out (.int .i64 (a : Int)) (.int .u64 (b : Int))
        by_cases hst : tt = s
        · have hq := HQ1.out hst
          rw [htt] at hst
          go_wp2
          refine bodyPost_ret (v := .tuple #[.agg #[.int .i64 (a : Int), .int .u64 (b : Int)], .bool true]) (by simp [results, Tryd.results30, go_sem, v0, v1, hst]) rfl ?_
          exact ⟨a, b, true, rfl, Or.inl ⟨rfl, hq⟩, HBF.out⟩
        · have hq := HQ2.out hst
          rw [htt] at hst
          go_wp2
          refine bodyPost_ret (v := .tuple #[.agg #[.int .i64 (a : Int), .int .u64 (b : Int)], .bool false]) (by simp [results, Tryd.results30, go_sem, v0, v1, hst]) rfl ?_
          exact ⟨a, b, false, rfl, Or.inr ⟨rfl, hq⟩, HBF.out⟩
      · subst he
        have HN := hid (part_bad HQ.out (Or.inr (Or.inl hno)))
        have x0 : W3.cell? ⟨w.heap.size, 0, none⟩ = some (.int .i64 0) := by rw [cell_at HX3.out]; rfl
        have x1 : W3.cell? ⟨w.heap.size, 1, none⟩ = some (.int .u64 0) := by rw [cell_at HX3.out]; rfl
        have f0 := free_of (o := 0) HX3.out
        have f1 := free_of (o := 1) HX3.out
        have HBF := hid ((HB3.out.setCell (p := ⟨w.heap.size, 0, none⟩) (Nat.le_refl _) (.int .i64 0)).setCell (p := ⟨w.heap.size, 1, none⟩) (Nat.le_refl _) (.int .u64 0))
        obtain ⟨v0, v1, -⟩ := set_pair HX3.out (.int .i64 0) (.int .u64 0)
        clear hno
        go_wp2
        refine bodyPost_ret (v := .tuple #[.agg #[.int .i64 0, .int .u64 0], .bool false]) (by simp [results, Tryd.results30, go_sem, v0, v1]) rfl ?_
        exact ⟨0, 0, false, rfl, Or.inr ⟨rfl, HN.out⟩, HBF.out⟩
    · have hI : (256 : Int) ≤ (a : Int) := by omega
      have HN := hid (part_bad HQ.out (Or.inr (Or.inr ⟨a, hp1, by omega⟩)))
      have x0 : W2.cell? ⟨w.heap.size, 0, none⟩ = some (.int .i64 0) := by rw [cell_at HX2.out]; rfl
      have x1 : W2.cell? ⟨w.heap.size, 1, none⟩ = some (.int .u64 0) := by rw [cell_at HX2.out]; rfl
      have f0 := free_of (o := 0) HX2.out
      have f1 := free_of (o := 1) HX2.out
      have HBF := hid ((HB2.out.setCell (p := ⟨w.heap.size, 0, none⟩) (Nat.le_refl _) (.int .i64 0)).setCell (p := ⟨w.heap.size, 1, none⟩) (Nat.le_refl _) (.int .u64 0))
      obtain ⟨v0, v1, -⟩ := set_pair HX2.out (.int .i64 0) (.int .u64 0)
      clear hp1 h256
      go_wp2
      refine bodyPost_ret (v := .tuple #[.agg #[.int .i64 0, .int .u64 0], .bool false]) (by simp [results, Tryd.results30, go_sem, v0, v1]) rfl ?_
      exact ⟨0, 0, false, rfl, Or.inr ⟨rfl, HN.out⟩, HBF.out⟩
  · subst he
    have HN := hid (part_bad HQ.out (Or.inl hno))
    have x0 : W2.cell? ⟨w.heap.size, 0, none⟩ = some (.int .i64 0) := by rw [cell_at HX2.out]; rfl
    have x1 : W2.cell? ⟨w.heap.size, 1, none⟩ = some (.int .u64 0) := by rw [cell_at HX2.out]; rfl
    have f0 := free_of (o := 0) HX2.out
    have f1 := free_of (o := 1) HX2.out
    have HBF := hid ((HB2.out.setCell (p := ⟨w.heap.size, 0, none⟩) (Nat.le_refl _) (.int .i64 0)).setCell (p := ⟨w.heap.size, 1, none⟩) (Nat.le_refl _) (.int .u64 0))
    obtain ⟨v0, v1, -⟩ := set_pair HX2.out (.int .i64 0) (.int .u64 0)
    clear hno
    go_wp2
    refine bodyPost_ret (v := .tuple #[.agg #[.int .i64 0, .int .u64 0], .bool false]) (by simp [results, Tryd.results30, go_sem, v0, v1]) rfl ?_
    exact ⟨0, 0, false, rfl, Or.inr ⟨rfl, HN.out⟩, HBF.out⟩
end Go.Proofs.YtibbbjikehkbmabDoor.Ve
namespace Go.Proofs.YtibbbjikehkbmabDoor.Ve
open Go.RowKit

theorem bytes_len (s : ByteArray) : s.data.toList.length = s.size := by rw [Lib.size_eq]
theorem take_byte (s : ByteArray) (k : Nat) (h : k < s.size) : s.data.toList.take (k + 1) = s.data.toList.take k ++ [s[k]'h] := by
  rw [List.take_succ_eq_append_getElem (by rw [bytes_len]; exact h)]
  rfl
theorem num_next (s : ByteArray) (k : Nat) (h : k < s.size) : (s.data.toList.take (k + 1)).foldl stepN 0 = stepN ((s.data.toList.take k).foldl stepN 0) (s[k]'h) := by
  rw [take_byte s k h, List.foldl_append]
  rfl
theorem num_end (s : ByteArray) {k : Nat} (hk : k ≤ s.size) (h20 : k ≤ 20) (h : ¬ (k < s.size ∧ k < 20)) : (s.data.toList.take k).foldl stepN 0 = numL s.data.toList := by
  unfold numL
  by_cases h1 : k = 20
  · rw [h1]
  · have hk2 : k = s.size := by omega
    rw [List.take_of_length_le (by rw [bytes_len]; omega), List.take_of_length_le (by rw [bytes_len]; omega)]
theorem step_eq (n : Nat) (b : UInt8) : IntKind.u64.wrap (IntKind.u64.wrap ((n : Int) * 10) + ((b.toNat : Int) - 48) % 256 % 10) = (stepN n b : Int) := by
  rw [IntKind.wrap_u64, IntKind.wrap_u64]
  unfold stepN
  have := b.toNat_lt
  omega
set_option maxRecDepth 20000 in
set_option maxHeartbeats 2000000 in
theorem number_any (s : ByteArray) (_hs : s.size ≤ 281474976710656) (w : World) : Calls Tryd.prog 45 #[.string s] w fun e w' => e = .returned (.int .u64 (numL s.data.toList : Nat)) ∧ w' = w := by
  go_enter Tryd.func45, Tryd.ntmps45
  go_wp2_with fail
  go_loopw [3, 4] (fun vn vi wr => ∃ (n k : Nat), k ≤ s.size ∧ k ≤ 20 ∧ vn = .int .u64 n ∧ vi = .int .i64 k ∧ wr = w ∧ Hid (n = (s.data.toList.take k).foldl stepN 0)) (fun _ vi _ => s.size - (intOf vi).toNat)
  case atStart => exact ⟨0, 0, Nat.zero_le _, Nat.zero_le _, rfl, rfl, rfl, rfl⟩
  case round =>
    obtain ⟨n, k, hk, h20, rfl, rfl, hwr, HN⟩ := hrel
    subst hwr
    have k0 : (0 : Int) ≤ (k : Int) := by omega
    by_cases hlt : k < s.size ∧ k < 20
    · obtain ⟨h1, h2⟩ := hlt
      have kI : (k : Int) < (s.size : Int) := by omega
      have kJ : (k : Int) < 20 := by omega
      have HX := hid (num_next s k h1)
      go_wp2_with fail
      go_roundw
      case rel => exact ⟨stepN n (s[k]'h1), k + 1, by omega, by omega, by rw [step_eq], by go_num, trivial, hid (by rw [HX.out, HN.out])⟩
      case measure => simp [intOf]; omega
    · have HE := hid (num_end s hk h20 hlt)
      by_cases h1 : k < s.size
      · have kI : (k : Int) < (s.size : Int) := by omega
        have kJ : ¬ (k : Int) < 20 := by omega
        clear hlt
        go_wp2_with fail
        go_ret
        exact ⟨by rw [← HE.out, ← HN.out]; rfl, rfl⟩
      · have kI : ¬ (k : Int) < (s.size : Int) := by omega
        clear hlt
        go_wp2_with fail
        go_ret
        exact ⟨by rw [← HE.out, ← HN.out]; rfl, rfl⟩
end Go.Proofs.YtibbbjikehkbmabDoor.Ve
namespace Go.Proofs.YtibbbjikehkbmabDoor.Ve
open Go.RowKit Go

section
variable {P : Program} {ops : Array Oper} {Q : Exit → Act → World → Prop} {md : Region.Mode} {S : World → Prop}
theorem opAtH {i : Nat} {o : Oper} {r : List Oper} (hd : ops.toList.drop i = o :: r) : ops[i]? = some o := by
  rw [← Array.getElem?_toList, ← Nat.add_zero i, ← List.getElem?_drop, hd]; rfl
/-- An operation that is carried out, and only reads. -/
theorem tkH {i : Nat} {o : Oper} {r : List Oper} {v : Value} {fuel : Nat} {listed : Array Bool} {a : Act} {w : World} (hd : ops.toList.drop i = o :: r) (hs : Region.noSelect ops = true) (hf : Region.free md ops listed i = true) (hr : (Region.ready md ops listed).contains i = true)
    (hQ : ∀ c a w, Q (.panic c) (a.put o.dst v) w → Q (.panic c) a w) (hw : Region.wanted o (yielded ops a.tmps) = true) (hv : ∀ w, S w → (execOp a.eval o).run P w = .ok (.value v) w) (hS : S w)
    (h : wpAnyH P md ops Q S fuel (listed.setIfInBounds i true) (a.put o.dst v) w) : wpAnyH P md ops Q S (fuel + 1) listed a w :=
  wpAnyH_take (opAtH hd) hs hf hr hQ (Or.inl ⟨hw, hv⟩) hS h
/-- An operation that is passed over. -/
theorem skH {i : Nat} {o : Oper} {r : List Oper} {fuel : Nat} {listed : Array Bool} {a : Act} {w : World} (hd : ops.toList.drop i = o :: r) (hs : Region.noSelect ops = true) (hf : Region.free md ops listed i = true) (hr : (Region.ready md ops listed).contains i = true)
    (hQ : ∀ c a w, Q (.panic c) (a.put o.dst undef) w → Q (.panic c) a w) (hw : Region.wanted o (yielded ops a.tmps) = false) (hS : S w)
    (h : wpAnyH P md ops Q S fuel (listed.setIfInBounds i true) (a.put o.dst undef) w) : wpAnyH P md ops Q S (fuel + 1) listed a w :=
  wpAnyH_take (opAtH hd) hs hf hr hQ (Or.inr ⟨hw, rfl⟩) hS h
/-- The one operation that may come up now: a call. -/
theorem caH {i : Nat} {o : Oper} {r : List Oper} {fuel : Nat} {listed : Array Bool} {a : Act} {w : World} (hd : ops.toList.drop i = o :: r) (hr : Region.ready md ops listed = [i]) (hw : Region.wanted o (yielded ops a.tmps) = true)
    (h : ∀ K' : Act → World → Prop, Go.Shut (∀ a w, S w → (S w → wpAnyH P md ops Q S fuel (listed.setIfInBounds i true) a w) → K' a w) → Oper.wp P o a w K' Q) : wpAnyH P md ops Q S (fuel + 1) listed a w :=
  wpAnyH_ready hr (by simp) (AllReadyH.cons (opAtH hd) (fun K' hK => by rw [if_pos hw]; exact h K' hK) AllReadyH.nil)
end
end Go.Proofs.YtibbbjikehkbmabDoor.Ve
namespace Go.Proofs.YtibbbjikehkbmabDoor.Ve
open Go.RowKit

theorem no_58 (s : ByteArray) {k : Nat} (hk : k = s.size) (h : ∀ b ∈ s.data.toList.take k, b ≠ 58) : partO s.data.toList = none := by
  refine partO_none fun x hx => ?_
  have := isP_has hx
  rw [List.take_of_length_le (by rw [bytes_len]; omega)] at h
  exact h _ this rfl
theorem at_58 (s : ByteArray) {k : Nat} (hk : k < s.size) (h58 : s[k]'hk = 58) : s.data.toList = s.data.toList.take k ++ 58 :: s.data.toList.drop (k + 1) := by
  have h1 : s.data.toList[k]'(by rw [bytes_len]; exact hk) = 58 := h58
  conv => lhs; rw [← List.take_append_drop k s.data.toList, List.drop_eq_getElem_cons (by rw [bytes_len]; exact hk), h1]
theorem numL_lt (l : List UInt8) : numL l < 18446744073709551616 := by
  unfold numL
  cases e : l.take 20 with
  | nil => decide
  | cons a r =>
    obtain ⟨q, b, e2⟩ : ∃ q b, a :: r = q ++ [b] := ⟨(a :: r).dropLast, (a :: r).getLast (by simp), (List.dropLast_concat_getLast (by simp)).symm⟩
    rw [e2, List.foldl_append]
    exact stepN_lt _ _
/-- What the document's part tells, at the first colon. -/
theorem part_doc (s : ByteArray) {k : Nat} (hk : k < s.size) (h58 : s[k]'hk = 58) (h : ∀ b ∈ s.data.toList.take k, b ≠ 58) {d v : Nat} (hd : d = numL (s.data.toList.take k) % 1000) (hv : v = numL (s.data.toList.drop (k + 1))) : (d < 256 → stT (d, v) = s.data.toList → partO s.data.toList = some ((d : Int), v)) ∧ (¬ (d < 256 ∧ stT (d, v) = s.data.toList) → partO s.data.toList = none) := by
  have hv64 : v < 18446744073709551616 := by rw [hv]; exact numL_lt _
  refine ⟨fun h1 h2 => partO_some ⟨by simp only; omega, hv64, by unfold stS; simpa using h2⟩, fun h1 => partO_none fun x hx => h1 ?_⟩
  have hx2 := hx
  rw [at_58 s hk h58] at hx2
  obtain ⟨e1, e2⟩ := isP_cut h hx2
  have hd' := hx.1
  have d1 : d = x.1.toNat := by rw [hd, e1, num_dec (by omega)]; omega
  have v1 : v = x.2 := by rw [hv, e2, num_dec hx.2.1]
  refine ⟨by omega, ?_⟩
  have := hx.2.2
  unfold stS at this
  rw [d1, v1]
  exact this
theorem ext_le (s : ByteArray) (a b N : Nat) (h : s.size ≤ N) : (s.extract a b).size ≤ N := by
  rw [Lib.size_eq, Lib.extract_eq]
  show ((s.data.toList.drop a).take (b - a)).length ≤ N
  rw [List.length_take, List.length_drop, bytes_len]
  omega
set_option maxRecDepth 20000 in
set_option maxHeartbeats 2000000 in
theorem Rpart_any (s : ByteArray) (hs : s.size ≤ 281474976710656) {w : World} (hw : Tabs w) : Calls Tryd.prog 31 #[.string s] w fun e w' => ∃ (d : Int) (u : Nat) (ok : Bool), e = .returned (.tuple #[.agg #[.int .i64 d, .int .u64 (u : Int)], .bool ok]) ∧ Hid (PartQ s.data.toList d u ok) ∧ Below w.heap.size w w' := by
  have HT := hid (fun W (hb : Below w.heap.size w W) => hw.below hb)
  have HS := hid hs
  have HX0 := hid (new_0 w (.cells #[.int .i64 0, .int .u64 0] 33))
  have HB0 := hid (below_al w (.cells #[.int .i64 0, .int .u64 0] 33))
  clear hw
  go_enter Tryd.func31, Tryd.ntmps31
  go_wp2_with fail
  go_loopw [4] (fun vi wr => ∃ k : Nat, k ≤ s.size ∧ vi = .int .i64 k ∧ Hid (∀ b ∈ s.data.toList.take k, b ≠ 58) ∧ Hid (Below w.heap.size w wr) ∧ Hid (wr.heap[w.heap.size]? = some (.cells #[.int .i64 0, .int .u64 0] 33 (0, 0)))) (fun vi _ => s.size - (intOf vi).toNat)
  case atStart => exact ⟨0, Nat.zero_le _, rfl, fun b hb => by simp at hb, HB0.out, HX0.out⟩
  case round =>
    obtain ⟨k, hk, rfl, HN, HB, HX⟩ := hrel
    have k0 : (0 : Int) ≤ (k : Int) := by omega
    by_cases hlt : k < s.size
    · have kI : (k : Int) < (s.size : Int) := by omega
      have kJ : (k : Int) ≤ (s.size : Int) := by omega
      have kL : (k : Int) + 1 ≤ (s.size : Int) := by omega
      have k1 : (0 : Int) ≤ (k : Int) + 1 := by omega
      have kw : IntKind.i64.wrap ((k : Int) + 1) = (k : Int) + 1 := by rw [IntKind.wrap_i64]; omega
      by_cases h58 : s[k]'hlt = 58
      · have hcI : ((s[k]'hlt).toNat : Int) = 58 := by rw [h58]; rfl
        have E1 : (s.extract 0 k).data.toList = s.data.toList.take k := by rw [Lib.extract_eq]; simp
        have E2 : (s.extract (k + 1) s.size).data.toList = s.data.toList.drop (k + 1) := by
          rw [Lib.extract_eq]
          exact List.take_of_length_le (by rw [List.length_drop, bytes_len]; exact Nat.le_refl _)
        obtain ⟨n1, hn1⟩ : ∃ n1, n1 = numL (s.data.toList.take k) := ⟨_, rfl⟩
        obtain ⟨n2, hn2⟩ : ∃ n2, n2 = numL (s.data.toList.drop (k + 1)) := ⟨_, rfl⟩
        obtain ⟨d, hd⟩ : ∃ d, d = n1 % 1000 := ⟨_, rfl⟩
        have h64 := hid (show n2 < 18446744073709551616 by rw [hn2]; exact numL_lt _)
        have HPD := hid (part_doc s hlt h58 HN.out (hd.trans (by rw [hn1])) hn2)
        have g1 : numL (s.extract 0 k).data.toList = n1 := by rw [E1, hn1]
        have g2 : numL (s.extract (k + 1) s.size).data.toList = n2 := by rw [E2, hn2]
        have hdI : (n1 : Int).tmod 1000 = (d : Int) := by rw [Int.tmod_eq_emod_of_nonneg (by omega)]; omega
        have hdJ : (n1 : Int) % 1000 = (d : Int) := by omega
        have HDV := hid (RDevice_any (d : Int))
        have hwr : IntKind.i64.wrap (d : Int) = (d : Int) := by rw [IntKind.wrap_i64]; omega
        clear E1 E2 hn1 hn2 h58 hd
        go_wp2_with fail
        go_region_held2 (fun W => True) (first | trivial | (go_keep; done)) (first | (go_at_call 45; refine (number_any _ (ext_le s _ _ _ HS.out) _).mono ?_; rintro e w' ⟨rfl, rfl⟩; (try rw [g1]); (try rw [g2])))
        all_goals
          have HX5 := hid (new_old wr (.cells #[.int .i64 (d : Int), .int .u64 (n2 : Int)] 33) HX.out)
          have HB5 := hid (HB.out.alloc HB.out.size (.cells #[.int .i64 (d : Int), .int .u64 (n2 : Int)] 33))
          have c0 : (wr.alloc (.cells #[.int .i64 (d : Int), .int .u64 (n2 : Int)] 33)).cell? ⟨wr.heap.size, 0, none⟩ = some (.int .i64 d) := cell_news 0
          have c1 : (wr.alloc (.cells #[.int .i64 (d : Int), .int .u64 (n2 : Int)] 33)).cell? ⟨wr.heap.size, 1, none⟩ = some (.int .u64 n2) := cell_news 1
          have hne : wr.heap.size ≠ w.heap.size := by have := lt_of_block HX.out; omega
        · by_cases h256 : d < 256
          · have hdv : devB (d : Int) = true := devB_iff.2 (by omega)
            rw [hdv] at HDV
            have HTX := hid (fun W (hb : Below w.heap.size w W) => Rstamp_any d n2 h256 h64.out (HT.out W hb).1)
            obtain ⟨tt, htt⟩ : ∃ tt, tt = stT (d, n2) := ⟨_, rfl⟩
            rw [← htt] at HTX HPD
            clear hdv
            go_wp2
            go_region_held2 (fun W => W.cell? ⟨wr.heap.size, 0, none⟩ = some (.int .i64 d) ∧ W.cell? ⟨wr.heap.size, 1, none⟩ = some (.int .u64 n2)) (first | exact ⟨c0, c1⟩ | exact hS4 | exact keep_pair hne hS4) (first | (go_at_call 23; refine (HDV.out _).mono ?_; rintro e w' ⟨rfl, e'⟩; have ew := e'.symm; clear e'; subst ew) | (go_at_call 28; refine (HTX.out _ (by exact HB5.out.drew.drew)).mono ?_; rintro en w4 ⟨rfl, hb4⟩; have B4 := hid (below_tr (Below.refl _ _).drew.drew hb4); have hS4 := And.intro ((B4.out.cell (block_oldS c0)).trans c0) ((B4.out.cell (block_oldS c1)).trans c1); have HX4 := hid (below_block B4.out HX5.out (lt_of_block HX5.out)); have x0 : w4.cell? ⟨w.heap.size, 0, none⟩ = some (.int .i64 0) := (cell_at HX4.out).trans rfl; have x1 : w4.cell? ⟨w.heap.size, 1, none⟩ = some (.int .u64 0) := (cell_at HX4.out).trans rfl; have f0 := free_of (o := 0) HX4.out; have f1 := free_of (o := 1) HX4.out; clear hb4))
            have HB4 := hid (below_tr HB5.out B4.out)
            have HBF := hid ((HB4.out.setCell (p := ⟨w.heap.size, 0, none⟩) (Nat.le_refl _) (.int .i64 (d : Int))).setCell (p := ⟨w.heap.size, 1, none⟩) (Nat.le_refl _) (.int .u64 (n2 : Int)))
            obtain ⟨v0, v1, -⟩ := set_pair HX4.out (.int .i64 (d : Int)) (.int .u64 (n2 : Int))
            by_cases hst : tt = s.data.toList
            · have hq := HPD.out.1 h256 hst
              rw [htt] at hst
              have hst2 : txV (stT (d, n2)) = s := by rw [hst]
              go_wp2
              refine bodyPost_ret (v := .tuple #[.agg #[.int .i64 (d : Int), .int .u64 (n2 : Int)], .bool true]) (by simp [results, Tryd.results31, go_sem, v0, v1, Lib.toList_data, hst]) rfl ?_
              exact ⟨d, n2, true, rfl, Or.inl ⟨rfl, hq⟩, HBF.out⟩
            · have hq := HPD.out.2 (fun q => hst q.2)
              rw [htt] at hst
              have hst2 : ¬ txV (stT (d, n2)) = s := fun e => hst (by rw [← e])
              go_wp2
              refine bodyPost_ret (v := .tuple #[.agg #[.int .i64 (d : Int), .int .u64 (n2 : Int)], .bool false]) (by simp [results, Tryd.results31, go_sem, v0, v1, Lib.toList_data, hst]) rfl ?_
              exact ⟨d, n2, false, rfl, Or.inr ⟨rfl, hq⟩, HBF.out⟩
          · have hdv : devB (d : Int) = false := devB_not.2 (by omega)
            rw [hdv] at HDV
            have hq := HPD.out.2 (fun q => h256 q.1)
            have x0 := (cell_at HX5.out).trans (show (#[Value.int .i64 0, Value.int .u64 0])[0]? = some (.int .i64 0) from rfl)
            have x1 := (cell_at HX5.out).trans (show (#[Value.int .i64 0, Value.int .u64 0])[1]? = some (.int .u64 0) from rfl)
            have f0 := free_of (o := 0) HX5.out
            have f1 := free_of (o := 1) HX5.out
            clear hdv
            go_wp2
            refine wp_region_held_drew (S := fun W => W.cell? ⟨wr.heap.size, 0, none⟩ = some (.int .i64 d) ∧ W.cell? ⟨wr.heap.size, 1, none⟩ = some (.int .u64 n2)) (by kernel_rfl) ?hSF0 (fun hHeld => ?_)
            case hSF0 => exact ⟨c0, c1⟩
            refine tkH (i := 0) (v := ?vF0) rfl (by kernel_rfl) (by kernel_rfl) (by kernel_rfl) (fun _ _ _ h => h) (by rfl) ?yF0 (by assumption) ?rF0
            case yF0 => (intro w hSw; (try dsimp only at hSw); go_simp; (try with_reducible rfl))
            (try simp only [Act.put, List.setIfInBounds_toArray, List.set_cons_zero, List.set_cons_succ])
            refine tkH (i := 1) (v := ?vF1) rfl (by kernel_rfl) (by kernel_rfl) (by kernel_rfl) (fun _ _ _ h => h) (by rfl) ?yF1 (by assumption) ?rF1
            case yF1 => (intro w hSw; (try dsimp only at hSw); go_simp; (try with_reducible rfl))
            (try simp only [Act.put, List.setIfInBounds_toArray, List.set_cons_zero, List.set_cons_succ])
            refine tkH (i := 2) (v := ?vF2) rfl (by kernel_rfl) (by kernel_rfl) (by kernel_rfl) (fun _ _ _ h => h) (by rfl) ?yF2 (by assumption) ?rF2
            case yF2 => (intro w hSw; (try dsimp only at hSw); go_simp; (try with_reducible rfl))
            (try simp only [Act.put, List.setIfInBounds_toArray, List.set_cons_zero, List.set_cons_succ])
            refine caH (i := 3) rfl (by kernel_rfl) (by rfl) (fun K hK => ?_)
            go_simp
            go_at_call 23
            refine (HDV.out _).mono ?_
            rintro e w' ⟨rfl, e'⟩
            have ew := e'.symm
            clear e'
            subst ew
            go_simp
            refine hK.out _ _ (⟨c0, c1⟩) (fun hHeld => ?_)
            clear hK K
            (try simp only [Act.put, List.setIfInBounds_toArray, List.set_cons_zero, List.set_cons_succ])
            refine tkH (i := 4) (v := ?vF4) rfl (by kernel_rfl) (by kernel_rfl) (by kernel_rfl) (fun _ _ _ h => h) (by rfl) ?yF4 (by assumption) ?rF4
            case yF4 => (intro w hSw; (try dsimp only at hSw); go_simp; (try with_reducible rfl))
            (try simp only [Act.put, List.setIfInBounds_toArray, List.set_cons_zero, List.set_cons_succ])
            refine skH (i := 5) rfl (by kernel_rfl) (by kernel_rfl) (by kernel_rfl) (fun _ _ _ h => h) (by rfl) (by assumption) ?_
            (try simp only [Act.put, List.setIfInBounds_toArray, List.set_cons_zero, List.set_cons_succ])
            refine skH (i := 6) rfl (by kernel_rfl) (by kernel_rfl) (by kernel_rfl) (fun _ _ _ h => h) (by rfl) (by assumption) ?_
            (try simp only [Act.put, List.setIfInBounds_toArray, List.set_cons_zero, List.set_cons_succ])
            refine skH (i := 7) rfl (by kernel_rfl) (by kernel_rfl) (by kernel_rfl) (fun _ _ _ h => h) (by rfl) (by assumption) ?_
            (try simp only [Act.put, List.setIfInBounds_toArray, List.set_cons_zero, List.set_cons_succ])
            refine skH (i := 8) rfl (by kernel_rfl) (by kernel_rfl) (by kernel_rfl) (fun _ _ _ h => h) (by rfl) (by assumption) ?_
            (try simp only [Act.put, List.setIfInBounds_toArray, List.set_cons_zero, List.set_cons_succ])
            refine tkH (i := 9) (v := ?vF9) rfl (by kernel_rfl) (by kernel_rfl) (by kernel_rfl) (fun _ _ _ h => h) (by rfl) ?yF9 (by assumption) ?rF9
            case yF9 => (intro w hSw; (try dsimp only at hSw); go_simp; (try with_reducible rfl))
            (try simp only [Act.put, List.setIfInBounds_toArray, List.set_cons_zero, List.set_cons_succ])
            refine caH (i := 10) rfl (by kernel_rfl) (by rfl) (fun K hK => ?_)
            go_simp
            refine hK.out _ _ (keep_pair hne ⟨c0, c1⟩) (fun hHeld => ?_)
            clear hK K
            (try simp only [Act.put, List.setIfInBounds_toArray, List.set_cons_zero, List.set_cons_succ])
            refine tkH (i := 11) (v := ?vF11) rfl (by kernel_rfl) (by kernel_rfl) (by kernel_rfl) (fun _ _ _ h => h) (by rfl) ?yF11 (by assumption) ?rF11
            case yF11 => (intro w hSw; (try dsimp only at hSw); go_simp; (try with_reducible rfl))
            (try simp only [Act.put, List.setIfInBounds_toArray, List.set_cons_zero, List.set_cons_succ])
            refine wpAnyH_done (by kernel_rfl) ?_ _
            have HBF := hid (((HB5.out.setCell (p := ⟨w.heap.size, 0, none⟩) (Nat.le_refl _) (.int .i64 (d : Int))).setCell (p := ⟨w.heap.size, 1, none⟩) (Nat.le_refl _) (.int .u64 (n2 : Int))).drew.drew)
            obtain ⟨v0, v1, -⟩ := set_pair HX5.out (.int .i64 (d : Int)) (.int .u64 (n2 : Int))
            go_wp2
            refine bodyPost_ret (v := .tuple #[.agg #[.int .i64 (d : Int), .int .u64 (n2 : Int)], .bool false]) (by simp [results, Tryd.results31, go_sem, v0, v1]) rfl ?_
            exact ⟨d, n2, false, rfl, Or.inr ⟨rfl, hq⟩, HBF.out⟩
        · by_cases h256 : d < 256
          · have hdv : devB (d : Int) = true := devB_iff.2 (by omega)
            rw [hdv] at HDV
            have HTX := hid (fun W (hb : Below w.heap.size w W) => Rstamp_any d n2 h256 h64.out (HT.out W hb).1)
            obtain ⟨tt, htt⟩ : ∃ tt, tt = stT (d, n2) := ⟨_, rfl⟩
            rw [← htt] at HTX HPD
            clear hdv
            go_wp2
            go_region_held2 (fun W => W.cell? ⟨wr.heap.size, 0, none⟩ = some (.int .i64 d) ∧ W.cell? ⟨wr.heap.size, 1, none⟩ = some (.int .u64 n2)) (first | exact ⟨c0, c1⟩ | exact hS4 | exact keep_pair hne hS4) (first | (go_at_call 23; refine (HDV.out _).mono ?_; rintro e w' ⟨rfl, e'⟩; have ew := e'.symm; clear e'; subst ew) | (go_at_call 28; refine (HTX.out _ (by exact HB5.out.drew.drew)).mono ?_; rintro en w4 ⟨rfl, hb4⟩; have B4 := hid (below_tr (Below.refl _ _).drew.drew hb4); have hS4 := And.intro ((B4.out.cell (block_oldS c0)).trans c0) ((B4.out.cell (block_oldS c1)).trans c1); have HX4 := hid (below_block B4.out HX5.out (lt_of_block HX5.out)); have x0 : w4.cell? ⟨w.heap.size, 0, none⟩ = some (.int .i64 0) := (cell_at HX4.out).trans rfl; have x1 : w4.cell? ⟨w.heap.size, 1, none⟩ = some (.int .u64 0) := (cell_at HX4.out).trans rfl; have f0 := free_of (o := 0) HX4.out; have f1 := free_of (o := 1) HX4.out; clear hb4))
            have HB4 := hid (below_tr HB5.out B4.out)
            have HBF := hid ((HB4.out.setCell (p := ⟨w.heap.size, 0, none⟩) (Nat.le_refl _) (.int .i64 (d : Int))).setCell (p := ⟨w.heap.size, 1, none⟩) (Nat.le_refl _) (.int .u64 (n2 : Int)))
            obtain ⟨v0, v1, -⟩ := set_pair HX4.out (.int .i64 (d : Int)) (.int .u64 (n2 : Int))
            by_cases hst : tt = s.data.toList
            · have hq := HPD.out.1 h256 hst
              rw [htt] at hst
              have hst2 : txV (stT (d, n2)) = s := by rw [hst]
              go_wp2
              refine bodyPost_ret (v := .tuple #[.agg #[.int .i64 (d : Int), .int .u64 (n2 : Int)], .bool true]) (by simp [results, Tryd.results31, go_sem, v0, v1, Lib.toList_data, hst]) rfl ?_
              exact ⟨d, n2, true, rfl, Or.inl ⟨rfl, hq⟩, HBF.out⟩
            · have hq := HPD.out.2 (fun q => hst q.2)
              rw [htt] at hst
              have hst2 : ¬ txV (stT (d, n2)) = s := fun e => hst (by rw [← e])
              go_wp2
              refine bodyPost_ret (v := .tuple #[.agg #[.int .i64 (d : Int), .int .u64 (n2 : Int)], .bool false]) (by simp [results, Tryd.results31, go_sem, v0, v1, Lib.toList_data, hst]) rfl ?_
              exact ⟨d, n2, false, rfl, Or.inr ⟨rfl, hq⟩, HBF.out⟩
          · have hdv : devB (d : Int) = false := devB_not.2 (by omega)
            rw [hdv] at HDV
            have hq := HPD.out.2 (fun q => h256 q.1)
            have x0 := (cell_at HX5.out).trans (show (#[Value.int .i64 0, Value.int .u64 0])[0]? = some (.int .i64 0) from rfl)
            have x1 := (cell_at HX5.out).trans (show (#[Value.int .i64 0, Value.int .u64 0])[1]? = some (.int .u64 0) from rfl)
            have f0 := free_of (o := 0) HX5.out
            have f1 := free_of (o := 1) HX5.out
            clear hdv
            go_wp2
            refine wp_region_held_drew (S := fun W => W.cell? ⟨wr.heap.size, 0, none⟩ = some (.int .i64 d) ∧ W.cell? ⟨wr.heap.size, 1, none⟩ = some (.int .u64 n2)) (by kernel_rfl) ?hSG0 (fun hHeld => ?_)
            case hSG0 => exact ⟨c0, c1⟩
            refine tkH (i := 0) (v := ?vG0) rfl (by kernel_rfl) (by kernel_rfl) (by kernel_rfl) (fun _ _ _ h => h) (by rfl) ?yG0 (by assumption) ?rG0
            case yG0 => (intro w hSw; (try dsimp only at hSw); go_simp; (try with_reducible rfl))
            (try simp only [Act.put, List.setIfInBounds_toArray, List.set_cons_zero, List.set_cons_succ])
            refine tkH (i := 1) (v := ?vG1) rfl (by kernel_rfl) (by kernel_rfl) (by kernel_rfl) (fun _ _ _ h => h) (by rfl) ?yG1 (by assumption) ?rG1
            case yG1 => (intro w hSw; (try dsimp only at hSw); go_simp; (try with_reducible rfl))
            (try simp only [Act.put, List.setIfInBounds_toArray, List.set_cons_zero, List.set_cons_succ])
            refine tkH (i := 2) (v := ?vG2) rfl (by kernel_rfl) (by kernel_rfl) (by kernel_rfl) (fun _ _ _ h => h) (by rfl) ?yG2 (by assumption) ?rG2
            case yG2 => (intro w hSw; (try dsimp only at hSw); go_simp; (try with_reducible rfl))
            (try simp only [Act.put, List.setIfInBounds_toArray, List.set_cons_zero, List.set_cons_succ])
            refine caH (i := 3) rfl (by kernel_rfl) (by rfl) (fun K hK => ?_)
            go_simp
            go_at_call 23
            refine (HDV.out _).mono ?_
            rintro e w' ⟨rfl, e'⟩
            have ew := e'.symm
            clear e'
            subst ew
            go_simp
            refine hK.out _ _ (⟨c0, c1⟩) (fun hHeld => ?_)
            clear hK K
            (try simp only [Act.put, List.setIfInBounds_toArray, List.set_cons_zero, List.set_cons_succ])
            refine tkH (i := 4) (v := ?vG4) rfl (by kernel_rfl) (by kernel_rfl) (by kernel_rfl) (fun _ _ _ h => h) (by rfl) ?yG4 (by assumption) ?rG4
            case yG4 => (intro w hSw; (try dsimp only at hSw); go_simp; (try with_reducible rfl))
            (try simp only [Act.put, List.setIfInBounds_toArray, List.set_cons_zero, List.set_cons_succ])
            refine skH (i := 5) rfl (by kernel_rfl) (by kernel_rfl) (by kernel_rfl) (fun _ _ _ h => h) (by rfl) (by assumption) ?_
            (try simp only [Act.put, List.setIfInBounds_toArray, List.set_cons_zero, List.set_cons_succ])
            refine skH (i := 6) rfl (by kernel_rfl) (by kernel_rfl) (by kernel_rfl) (fun _ _ _ h => h) (by rfl) (by assumption) ?_
            (try simp only [Act.put, List.setIfInBounds_toArray, List.set_cons_zero, List.set_cons_succ])
            refine skH (i := 7) rfl (by kernel_rfl) (by kernel_rfl) (by kernel_rfl) (fun _ _ _ h => h) (by rfl) (by assumption) ?_
            (try simp only [Act.put, List.setIfInBounds_toArray, List.set_cons_zero, List.set_cons_succ])
            refine skH (i := 8) rfl (by kernel_rfl) (by kernel_rfl) (by kernel_rfl) (fun _ _ _ h => h) (by rfl) (by assumption) ?_
            (try simp only [Act.put, List.setIfInBounds_toArray, List.set_cons_zero, List.set_cons_succ])
            refine tkH (i := 9) (v := ?vG9) rfl (by kernel_rfl) (by kernel_rfl) (by kernel_rfl) (fun _ _ _ h => h) (by rfl) ?yG9 (by assumption) ?rG9
            case yG9 => (intro w hSw; (try dsimp only at hSw); go_simp; (try with_reducible rfl))
            (try simp only [Act.put, List.setIfInBounds_toArray, List.set_cons_zero, List.set_cons_succ])
            refine caH (i := 10) rfl (by kernel_rfl) (by rfl) (fun K hK => ?_)
            go_simp
            refine hK.out _ _ (keep_pair hne ⟨c0, c1⟩) (fun hHeld => ?_)
            clear hK K
            (try simp only [Act.put, List.setIfInBounds_toArray, List.set_cons_zero, List.set_cons_succ])
            refine tkH (i := 11) (v := ?vG11) rfl (by kernel_rfl) (by kernel_rfl) (by kernel_rfl) (fun _ _ _ h => h) (by rfl) ?yG11 (by assumption) ?rG11
            case yG11 => (intro w hSw; (try dsimp only at hSw); go_simp; (try with_reducible rfl))
            (try simp only [Act.put, List.setIfInBounds_toArray, List.set_cons_zero, List.set_cons_succ])
            refine wpAnyH_done (by kernel_rfl) ?_ _
            have HBF := hid (((HB5.out.setCell (p := ⟨w.heap.size, 0, none⟩) (Nat.le_refl _) (.int .i64 (d : Int))).setCell (p := ⟨w.heap.size, 1, none⟩) (Nat.le_refl _) (.int .u64 (n2 : Int))).drew.drew)
            obtain ⟨v0, v1, -⟩ := set_pair HX5.out (.int .i64 (d : Int)) (.int .u64 (n2 : Int))
            go_wp2
            refine bodyPost_ret (v := .tuple #[.agg #[.int .i64 (d : Int), .int .u64 (n2 : Int)], .bool false]) (by simp [results, Tryd.results31, go_sem, v0, v1]) rfl ?_
            exact ⟨d, n2, false, rfl, Or.inr ⟨rfl, hq⟩, HBF.out⟩
        · by_cases h256 : d < 256
          · have hdv : devB (d : Int) = true := devB_iff.2 (by omega)
            rw [hdv] at HDV
            have HTX := hid (fun W (hb : Below w.heap.size w W) => Rstamp_any d n2 h256 h64.out (HT.out W hb).1)
            obtain ⟨tt, htt⟩ : ∃ tt, tt = stT (d, n2) := ⟨_, rfl⟩
            rw [← htt] at HTX HPD
            clear hdv
            go_wp2
            go_region_held2 (fun W => W.cell? ⟨wr.heap.size, 0, none⟩ = some (.int .i64 d) ∧ W.cell? ⟨wr.heap.size, 1, none⟩ = some (.int .u64 n2)) (first | exact ⟨c0, c1⟩ | exact hS4 | exact keep_pair hne hS4) (first | (go_at_call 23; refine (HDV.out _).mono ?_; rintro e w' ⟨rfl, e'⟩; have ew := e'.symm; clear e'; subst ew) | (go_at_call 28; refine (HTX.out _ (by exact HB5.out.drew.drew)).mono ?_; rintro en w4 ⟨rfl, hb4⟩; have B4 := hid (below_tr (Below.refl _ _).drew.drew hb4); have hS4 := And.intro ((B4.out.cell (block_oldS c0)).trans c0) ((B4.out.cell (block_oldS c1)).trans c1); have HX4 := hid (below_block B4.out HX5.out (lt_of_block HX5.out)); have x0 : w4.cell? ⟨w.heap.size, 0, none⟩ = some (.int .i64 0) := (cell_at HX4.out).trans rfl; have x1 : w4.cell? ⟨w.heap.size, 1, none⟩ = some (.int .u64 0) := (cell_at HX4.out).trans rfl; have f0 := free_of (o := 0) HX4.out; have f1 := free_of (o := 1) HX4.out; clear hb4))
            have HB4 := hid (below_tr HB5.out B4.out)
            have HBF := hid ((HB4.out.setCell (p := ⟨w.heap.size, 0, none⟩) (Nat.le_refl _) (.int .i64 (d : Int))).setCell (p := ⟨w.heap.size, 1, none⟩) (Nat.le_refl _) (.int .u64 (n2 : Int)))
            obtain ⟨v0, v1, -⟩ := set_pair HX4.out (.int .i64 (d : Int)) (.int .u64 (n2 : Int))
            by_cases hst : tt = s.data.toList
            · have hq := HPD.out.1 h256 hst
              rw [htt] at hst
              have hst2 : txV (stT (d, n2)) = s := by rw [hst]
              go_wp2
              refine bodyPost_ret (v := .tuple #[.agg #[.int .i64 (d : Int), .int .u64 (n2 : Int)], .bool true]) (by simp [results, Tryd.results31, go_sem, v0, v1, Lib.toList_data, hst]) rfl ?_
              exact ⟨d, n2, true, rfl, Or.inl ⟨rfl, hq⟩, HBF.out⟩
            · have hq := HPD.out.2 (fun q => hst q.2)
              rw [htt] at hst
              have hst2 : ¬ txV (stT (d, n2)) = s := fun e => hst (by rw [← e])
              go_wp2
              refine bodyPost_ret (v := .tuple #[.agg #[.int .i64 (d : Int), .int .u64 (n2 : Int)], .bool false]) (by simp [results, Tryd.results31, go_sem, v0, v1, Lib.toList_data, hst]) rfl ?_
              exact ⟨d, n2, false, rfl, Or.inr ⟨rfl, hq⟩, HBF.out⟩
          · have hdv : devB (d : Int) = false := devB_not.2 (by omega)
            rw [hdv] at HDV
            have hq := HPD.out.2 (fun q => h256 q.1)
            have x0 := (cell_at HX5.out).trans (show (#[Value.int .i64 0, Value.int .u64 0])[0]? = some (.int .i64 0) from rfl)
            have x1 := (cell_at HX5.out).trans (show (#[Value.int .i64 0, Value.int .u64 0])[1]? = some (.int .u64 0) from rfl)
            have f0 := free_of (o := 0) HX5.out
            have f1 := free_of (o := 1) HX5.out
            clear hdv
            go_wp2
            refine wp_region_held_drew (S := fun W => W.cell? ⟨wr.heap.size, 0, none⟩ = some (.int .i64 d) ∧ W.cell? ⟨wr.heap.size, 1, none⟩ = some (.int .u64 n2)) (by kernel_rfl) ?hSH0 (fun hHeld => ?_)
            case hSH0 => exact ⟨c0, c1⟩
            refine tkH (i := 0) (v := ?vH0) rfl (by kernel_rfl) (by kernel_rfl) (by kernel_rfl) (fun _ _ _ h => h) (by rfl) ?yH0 (by assumption) ?rH0
            case yH0 => (intro w hSw; (try dsimp only at hSw); go_simp; (try with_reducible rfl))
            (try simp only [Act.put, List.setIfInBounds_toArray, List.set_cons_zero, List.set_cons_succ])
            refine tkH (i := 1) (v := ?vH1) rfl (by kernel_rfl) (by kernel_rfl) (by kernel_rfl) (fun _ _ _ h => h) (by rfl) ?yH1 (by assumption) ?rH1
            case yH1 => (intro w hSw; (try dsimp only at hSw); go_simp; (try with_reducible rfl))
            (try simp only [Act.put, List.setIfInBounds_toArray, List.set_cons_zero, List.set_cons_succ])
            refine tkH (i := 2) (v := ?vH2) rfl (by kernel_rfl) (by kernel_rfl) (by kernel_rfl) (fun _ _ _ h => h) (by rfl) ?yH2 (by assumption) ?rH2
            case yH2 => (intro w hSw; (try dsimp only at hSw); go_simp; (try with_reducible rfl))
            (try simp only [Act.put, List.setIfInBounds_toArray, List.set_cons_zero, List.set_cons_succ])
            refine caH (i := 3) rfl (by kernel_rfl) (by rfl) (fun K hK => ?_)
            go_simp
            go_at_call 23
            refine (HDV.out _).mono ?_
            rintro e w' ⟨rfl, e'⟩
            have ew := e'.symm
            clear e'
            subst ew
            go_simp
            refine hK.out _ _ (⟨c0, c1⟩) (fun hHeld => ?_)
            clear hK K
            (try simp only [Act.put, List.setIfInBounds_toArray, List.set_cons_zero, List.set_cons_succ])
            refine tkH (i := 4) (v := ?vH4) rfl (by kernel_rfl) (by kernel_rfl) (by kernel_rfl) (fun _ _ _ h => h) (by rfl) ?yH4 (by assumption) ?rH4
            case yH4 => (intro w hSw; (try dsimp only at hSw); go_simp; (try with_reducible rfl))
            (try simp only [Act.put, List.setIfInBounds_toArray, List.set_cons_zero, List.set_cons_succ])
            refine skH (i := 5) rfl (by kernel_rfl) (by kernel_rfl) (by kernel_rfl) (fun _ _ _ h => h) (by rfl) (by assumption) ?_
            (try simp only [Act.put, List.setIfInBounds_toArray, List.set_cons_zero, List.set_cons_succ])
            refine skH (i := 6) rfl (by kernel_rfl) (by kernel_rfl) (by kernel_rfl) (fun _ _ _ h => h) (by rfl) (by assumption) ?_
            (try simp only [Act.put, List.setIfInBounds_toArray, List.set_cons_zero, List.set_cons_succ])
            refine skH (i := 7) rfl (by kernel_rfl) (by kernel_rfl) (by kernel_rfl) (fun _ _ _ h => h) (by rfl) (by assumption) ?_
            (try simp only [Act.put, List.setIfInBounds_toArray, List.set_cons_zero, List.set_cons_succ])
            refine skH (i := 8) rfl (by kernel_rfl) (by kernel_rfl) (by kernel_rfl) (fun _ _ _ h => h) (by rfl) (by assumption) ?_
            (try simp only [Act.put, List.setIfInBounds_toArray, List.set_cons_zero, List.set_cons_succ])
            refine tkH (i := 9) (v := ?vH9) rfl (by kernel_rfl) (by kernel_rfl) (by kernel_rfl) (fun _ _ _ h => h) (by rfl) ?yH9 (by assumption) ?rH9
            case yH9 => (intro w hSw; (try dsimp only at hSw); go_simp; (try with_reducible rfl))
            (try simp only [Act.put, List.setIfInBounds_toArray, List.set_cons_zero, List.set_cons_succ])
            refine caH (i := 10) rfl (by kernel_rfl) (by rfl) (fun K hK => ?_)
            go_simp
            refine hK.out _ _ (keep_pair hne ⟨c0, c1⟩) (fun hHeld => ?_)
            clear hK K
            (try simp only [Act.put, List.setIfInBounds_toArray, List.set_cons_zero, List.set_cons_succ])
            refine tkH (i := 11) (v := ?vH11) rfl (by kernel_rfl) (by kernel_rfl) (by kernel_rfl) (fun _ _ _ h => h) (by rfl) ?yH11 (by assumption) ?rH11
            case yH11 => (intro w hSw; (try dsimp only at hSw); go_simp; (try with_reducible rfl))
            (try simp only [Act.put, List.setIfInBounds_toArray, List.set_cons_zero, List.set_cons_succ])
            refine wpAnyH_done (by kernel_rfl) ?_ _
            have HBF := hid (((HB5.out.setCell (p := ⟨w.heap.size, 0, none⟩) (Nat.le_refl _) (.int .i64 (d : Int))).setCell (p := ⟨w.heap.size, 1, none⟩) (Nat.le_refl _) (.int .u64 (n2 : Int))).drew.drew)
            obtain ⟨v0, v1, -⟩ := set_pair HX5.out (.int .i64 (d : Int)) (.int .u64 (n2 : Int))
            go_wp2
            refine bodyPost_ret (v := .tuple #[.agg #[.int .i64 (d : Int), .int .u64 (n2 : Int)], .bool false]) (by simp [results, Tryd.results31, go_sem, v0, v1]) rfl ?_
            exact ⟨d, n2, false, rfl, Or.inr ⟨rfl, hq⟩, HBF.out⟩
      · have hcI : ¬ ((s[k]'hlt).toNat : Int) = 58 := by
          intro e
          have h2 : (s[k]'hlt).toNat = 58 := by omega
          exact h58 (UInt8.toNat_inj.1 h2)
        have hcB : (((s[k]'hlt).toNat : Int) == 58) = false := by rw [beq_eq_false_iff_ne]; exact hcI
        have HNX := hid (show ∀ b ∈ s.data.toList.take (k + 1), b ≠ 58 by
          intro b hb
          rw [take_byte s k hlt] at hb
          rcases List.mem_append.1 hb with hb | hb
          · exact HN.out b hb
          · rw [List.mem_singleton.1 hb]; exact h58)
        clear h58
        go_wp2_with fail
        go_roundw
        case rel => exact ⟨k + 1, by omega, by go_num, HNX, HB, HX⟩
        case measure => simp [intOf]; omega
    · have kI : ¬ (k : Int) < (s.size : Int) := by omega
      have HQ := hid (no_58 s (by omega) HN.out)
      have x0 : wr.cell? ⟨w.heap.size, 0, none⟩ = some (.int .i64 0) := (cell_at HX.out).trans rfl
      have x1 : wr.cell? ⟨w.heap.size, 1, none⟩ = some (.int .u64 0) := (cell_at HX.out).trans rfl
      have f0 := free_of (o := 0) HX.out
      have f1 := free_of (o := 1) HX.out
      have HBF := hid ((HB.out.setCell (p := ⟨w.heap.size, 0, none⟩) (Nat.le_refl _) (.int .i64 0)).setCell (p := ⟨w.heap.size, 1, none⟩) (Nat.le_refl _) (.int .u64 0))
      obtain ⟨v0, v1, -⟩ := set_pair HX.out (.int .i64 0) (.int .u64 0)
      go_wp2_with fail
      refine bodyPost_ret (v := .tuple #[.agg #[.int .i64 0, .int .u64 0], .bool false]) (by simp [results, Tryd.results31, go_sem, v0, v1]) rfl ?_
      exact ⟨0, 0, .inl ⟨rfl, Or.inr ⟨rfl, HQ.out⟩, HBF.out⟩⟩
end Go.Proofs.YtibbbjikehkbmabDoor.Ve
