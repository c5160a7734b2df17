/-
  Proved: for any bytes and any number the law DumpNobody answers true (a table that nobody made is refused by Write, Read, Size and Move, and so is a ref that was not told), and leaves its arguments as they were. Conditions: none.
  dump: calls that are refused.
  The law BddNobody: of any text it answers true.
  awake: the bytes of a function that is known.
  The family of made's functions; texts of bytes.
-/
import Derived.Test.YtffngpdngjfcfaaBLBackAnd
import Derived.Test.YtffngpdngjfcfaaBCubesAnd
import Derived.Laws.BytesArg
import Derived.Test.YtffngpdngjfcfaaBNoAnsAnd
import Derived.Test.YtffngpdngjfcfaaRows
import Derived.WalkKit
import Derived.ProofKit
import Derived.OpenShut
namespace Go.Proofs.Ytffngpdngjfcfaa
open Go.RowKit Go.Maps
open Bd (Nd ff tt iteF)

theorem orL_join (ts : List ByteArray) : ∀ (bs bs' : List Bool), bs.length = ts.length → bs'.length = ts.length → ∀ k, orL ts (List.zipWith or bs bs') k = iteF (orL ts bs k) tt (orL ts bs' k) := by
  induction ts with
  | nil =>
    intro bs bs' h h' k
    have e1 := List.length_eq_zero_iff.1 h
    have e2 := List.length_eq_zero_iff.1 h'
    subst e1 e2
    rfl
  | cons t ts ih =>
    intro bs bs' h h' k
    cases bs with
    | nil => simp at h
    | cons b bs =>
      cases bs' with
      | nil => simp at h'
      | cons b' bs' =>
        have e := ih bs bs' (by simpa using h) (by simpa using h') k
        funext x
        have ex := congrFun e x
        show ((b || b') && suf t k x || orL ts (List.zipWith or bs bs') k x) = _
        rw [ex]
        show ((b || b') && suf t k x || (if orL ts bs k x = true then true else orL ts bs' k x)) = (if ((b && suf t k x) || orL ts bs k x) = true then true else ((b' && suf t k x) || orL ts bs' k x))
        cases b <;> cases b' <;> cases suf t k x <;> cases orL ts bs k x <;> cases orL ts bs' k x <;> rfl

/-- The texts that are cubes of so many bits. -/
def rights (nb : Nat) (ss : List ByteArray) : List ByteArray := (firsts ss 12).filter fun t => letB t nb
theorem rights_size (nb : Nat) (ss : List ByteArray) : ∀ t, t ∈ rights nb ss → t.size = nb := by
  intro t ht
  have := (List.mem_filter.1 ht).2
  unfold letB at this
  simp at this
  exact this.1
theorem rights_few (nb : Nat) (ss : List ByteArray) : (rights nb ss).length ≤ 12 := by
  have := List.length_filter_le (fun t => letB t nb) (firsts ss 12)
  rw [firsts_length] at this
  exact this
theorem orIn_fam {nb c : Nat} (ts : List ByteArray) (hs : ∀ t, t ∈ ts → t.size = nb) (hl : ts.length ≤ c) (ss : List ByteArray) (n : Nat) (h : ∀ i, i < n → letB (ss.getD i ByteArray.empty) nb = true → ss.getD i ByteArray.empty ∈ ts) : OrIn (orFam nb c ts hs hl) ss n := by
  refine ⟨⟨pre ts.length 0, pre_length _ _, (or_pre0 _ _ 0).symm⟩, fun i hi hr => ?_, fun f g hf hg => ?_⟩
  · obtain ⟨j, hj⟩ := List.getElem?_of_mem (h i hi hr)
    exact ⟨unit ts.length j, unit_length _ _, (or_unit _ _ _ hj 0).symm⟩
  · obtain ⟨bs, hb, rfl⟩ := hf
    obtain ⟨bs', hb', rfl⟩ := hg
    exact ⟨List.zipWith or bs bs', by rw [List.length_zipWith]; omega, (orL_join ts bs bs' hb hb' 0).symm⟩
theorem orIn_rights (nb : Nat) (ss : List ByteArray) : OrIn (orFam nb 12 (rights nb ss) (rights_size nb ss) (rights_few nb ss)) ss 12 :=
  orIn_fam _ _ _ ss 12 (fun _ hi hr => List.mem_filter.2 ⟨List.mem_of_getElem? (firsts_at ss hi), hr⟩)

/-- The text of some bytes. -/
theorem byts_text {w : World} {g cap : Nat} {l : List UInt8} (h : w.ownsRow 0 5 1 (.slice (some ⟨g, 0, none⟩) l.length cap) l.length (byts l)) : (convert 29 9 (.slice (some ⟨g, 0, none⟩) l.length cap)).run Try.prog w = .ok (.string ⟨l.toArray⟩) w := by
  have hcv := run_convert_bytes_arg (P := Try.prog) w 29 5 Try.underlying29 Try.underlying5 g 0 l.length cap (l.map fun c => (c.toNat : Int)) (by rw [List.length_map]) (fun i hi => by
    rw [Nat.zero_add, h.cellAt i (by omega), List.getD_eq_getElem?_getD, List.getElem?_map, List.getElem?_eq_getElem hi]
    unfold byts
    rw [List.getElem?_map, List.getElem?_eq_getElem hi]
    rfl) 9 Try.underlying9
  have hst : strOfNums (l.map fun c => (c.toNat : Int)) = ⟨l.toArray⟩ := by
    unfold strOfNums; exact congrArg ByteArray.mk (by simp [Function.comp_def])
  rw [hst] at hcv
  exact hcv
end Go.Proofs.Ytffngpdngjfcfaa
namespace Go.Proofs.Ytffngpdngjfcfaa
open Go.RowKit Go.Maps
open Bd (Nd ff tt iteF)

def t11 : ByteArray := ⟨#[49, 49]⟩
theorem let11 : letB t11 2 = true := by decide
theorem made11 : madeF 2 [t11] (min 1 12) = suf t11 0 := by
  show madeF 2 [t11] (0 + 1) = _
  rw [madeF_succ]
  show (if letB t11 2 = true then iteF ff tt (suf t11 0) else ff) = _
  rw [if_pos let11, ite_ff_or]
theorem okay11 : Bd.Okay 2 [(1, 0, 1), (0, 0, 2)] := by
  have h0 := (Bd.Okay.nil (bits := 2) (by omega)).snoc (x := (1, 0, 1)) (by simp) (by simp) (by simp) (by simp) (by simp) (by simp [Bd.bitOf]) (by simp [Bd.bitOf])
  exact h0.snoc (x := (0, 0, 2)) (by simp) (by simp) (by simp) (by simp) (by simp) (by simp [Bd.bitOf]) (by simp [Bd.bitOf])
theorem den11 : Bd.den [(1, 0, 1), (0, 0, 2)] 3 = suf t11 0 := by
  have h1 := Bd.den_at okay11 (i := 1) (x := (0, 0, 2)) rfl
  have h0 := Bd.den_at okay11 (i := 0) (x := (1, 0, 1)) rfl
  have e2 : suf t11 2 = tt := suf_end t11
  rw [h1, h0, Bd.den_zero, Bd.den_one, suf_one (t := t11) (k := 0) (by decide) rfl, suf_one (t := t11) (k := 1) (by decide) rfl, e2]
theorem list11 {L : List Nd} {m : Nat} (hL : Bd.Okay 2 L) (hm : m < L.length + 2) (hd : Bd.den L m = suf t11 0) : listOf L m = [(1, 0, 1), (0, 0, 2)] := by
  rw [list_alike hL okay11 (n' := 3) ⟨hm, by simp, hd.trans den11.symm⟩]
  decide
theorem dump11 (r : Nat) : dumpB 2 [(1, 0, 1), (0, 0, 2)] r = [2, 0, 0, 0, 2, 1, 0, 0, 0, 0, 0, 0, 0, 1, 0, 0, 0, 0, 0, 0, 0, 0, 2] := by
  unfold dumpB
  rw [if_neg (by simp)]
  decide
theorem came11 (w : World) : Came (w.alloc (.cells #[.string t11] 9)) (some ⟨w.heap.size, 0, none⟩) 1 1 [t11] := by
  refine Or.inr ⟨_, rfl, Nat.le_refl _, by simp [maxLen], rfl, fun i hi => ?_, fun s hs => by simp at hs; subst hs; simp [maxLen, t11, ByteArray.size]⟩
  have e : i = 0 := by simp at hi; omega
  subst e
  rw [addr_add, cell_at (heap_alloc_new w _)]
  rfl

theorem made_11 (w : World) : Calls Try.prog 9 #[.int .i64 2, .int .i64 10, .slice (some ⟨w.heap.size, 0, none⟩) 1 1] (w.alloc (.cells #[.string t11] 9)) fun e w1 => ∃ tb qb a b : Nat, e = .returned (.tuple #[.pointer (some ⟨tb, 0, none⟩), .pointer (some ⟨qb, 0, none⟩), .int .i64 a, .int .i64 b, .bool true]) ∧ Below w.heap.size w w1 ∧
    Hid (Calls Try.prog 11 #[.pointer (some ⟨tb, 0, none⟩), .int .i64 a] w1 fun e w2 => ∃ g cap, e = .returned (.tuple #[.slice (some ⟨g, 0, none⟩) 23 cap, .int .i64 0]) ∧ Below w.heap.size w w2 ∧ Hid (w2.ownsRow 0 5 1 (.slice (some ⟨g, 0, none⟩) 23 cap) 23 (byts [2, 0, 0, 0, 2, 1, 0, 0, 0, 0, 0, 0, 0, 1, 0, 0, 0, 0, 0, 0, 0, 0, 2]))) := by
  have hA := orIn_fam (nb := 2) (c := 1) [t11] (fun t ht => by simp at ht; subst ht; rfl) (by simp) [t11] 12 (fun i hi hl => by
    cases i with
    | zero => simp
    | succ i =>
      have e : ([t11] : List ByteArray).getD (i + 1) ByteArray.empty = ByteArray.empty := by simp [List.getD_eq_getElem?_getD]
      rw [e] at hl
      exact absurd hl (by decide))
  refine (dmade_any (nb := 2) (M := 2 ^ 1) _ 10 _ 1 1 [t11] _ (came11 w) hA (by omega) (by omega) (by omega) (by omega) (by omega)).mono ?_
  rintro e w1 ⟨tb, qb, a, b, rfl, hM⟩
  rw [made11] at hM
  obtain ⟨y, L, roots, m, rfl, hT, hW, hK, hB, hy, f1, f2, f3⟩ := hM.ex
  have hb0 : Below w.heap.size w (w.alloc (.cells #[.string t11] 9)) := (Below.refl _ _).alloc (Nat.le_refl _) _
  have hB1 : Below w.heap.size w w1 := hb0.trans (hB.mono hb0.size)
  refine ⟨y.tb, qb, a, b, rfl, hB1, ?_⟩
  have hw := Write_ok hT (Nat.le_refl _) a m f1 f2
  refine hw.mono ?_
  rintro e w2 ⟨v, rfl, hrow, _, hb2⟩
  have hl : listOf L m = [(1, 0, 1), (0, 0, 2)] := list11 hT.okay f2 f3
  have e : dumpB 2 (listOf L m) a = [2, 0, 0, 0, 2, 1, 0, 0, 0, 0, 0, 0, 0, 1, 0, 0, 0, 0, 0, 0, 0, 0, 2] := by rw [hl]; exact dump11 a
  have hrow' : w2.ownsRow 0 5 1 v (dumpB 2 (listOf L m) a).length (byts (dumpB 2 (listOf L m) a)) := hrow
  rw [e] at hrow'
  obtain ⟨g, cap, rfl, _, _⟩ := hrow'.form (by simp)
  exact ⟨g, cap, rfl, hB1.trans (hb2.mono hB1.size), hrow'⟩

set_option maxRecDepth 4000 in
set_option maxHeartbeats 4000000 in
theorem dawake_any (w : World) : Calls Try.prog 10 #[] w fun e w' => e = .returned (.bool true) ∧ Below w.heap.size w w' := by
  have HM := keep (made_11 w)
  have et : t11 = ⟨#[49, 49]⟩ := rfl
  rw [et] at HM
  clear et
  go_enter Try.func10, Try.ntmps10
  go_wp2_with fail
  refine HM.out.mono ?_
  rintro e w1 ⟨tb, qb, a, b, rfl, hb1, HW⟩
  clear hb1 HM
  go_wp2_with fail
  refine HW.out.mono ?_
  rintro e w2 ⟨g, cap, rfl, hb2, HROW⟩
  have HB2 := keep hb2
  clear hb2 HW
  have hc1 : (convert 29 9 (.slice (some ⟨g, 0, none⟩) 23 cap)).run Try.prog w2 = .ok (.string ⟨#[2, 0, 0, 0, 2, 1, 0, 0, 0, 0, 0, 0, 0, 1, 0, 0, 0, 0, 0, 0, 0, 0, 2]⟩) w2 := byts_text (l := [2, 0, 0, 0, 2, 1, 0, 0, 0, 0, 0, 0, 0, 1, 0, 0, 0, 0, 0, 0, 0, 0, 2]) HROW.out
  have hc2 : (convert 29 9 (.slice (some ⟨w2.heap.size, 0, none⟩) 23 23)).run Try.prog (w2.alloc (.cells #[.int .u8 2, .int .u8 0, .int .u8 0, .int .u8 0, .int .u8 2, .int .u8 1, .int .u8 0, .int .u8 0, .int .u8 0, .int .u8 0, .int .u8 0, .int .u8 0, .int .u8 0, .int .u8 1, .int .u8 0, .int .u8 0, .int .u8 0, .int .u8 0, .int .u8 0, .int .u8 0, .int .u8 0, .int .u8 0, .int .u8 2] 5)) = .ok (.string ⟨#[2, 0, 0, 0, 2, 1, 0, 0, 0, 0, 0, 0, 0, 1, 0, 0, 0, 0, 0, 0, 0, 0, 2]⟩) (w2.alloc (.cells #[.int .u8 2, .int .u8 0, .int .u8 0, .int .u8 0, .int .u8 2, .int .u8 1, .int .u8 0, .int .u8 0, .int .u8 0, .int .u8 0, .int .u8 0, .int .u8 0, .int .u8 0, .int .u8 1, .int .u8 0, .int .u8 0, .int .u8 0, .int .u8 0, .int .u8 0, .int .u8 0, .int .u8 0, .int .u8 0, .int .u8 2] 5)) :=
    byts_text (l := [2, 0, 0, 0, 2, 1, 0, 0, 0, 0, 0, 0, 0, 1, 0, 0, 0, 0, 0, 0, 0, 0, 2]) (row_zero (World.ownsRow_lit (e := 5) (size := 1) w2 #[.int .u8 2, .int .u8 0, .int .u8 0, .int .u8 0, .int .u8 2, .int .u8 1, .int .u8 0, .int .u8 0, .int .u8 0, .int .u8 0, .int .u8 0, .int .u8 0, .int .u8 0, .int .u8 1, .int .u8 0, .int .u8 0, .int .u8 0, .int .u8 0, .int .u8 0, .int .u8 0, .int .u8 0, .int .u8 0, .int .u8 2] 23 (Nat.le_refl _) (by unfold maxLen; omega) rfl))
  go_wp2
  go_ret
  exact ⟨by simp, HB2.out.alloc HB2.out.size _⟩
end Go.Proofs.Ytffngpdngjfcfaa
namespace Go.Proofs.Ytffngpdngjfcfaa
open Go.RowKit Go.Maps

/-- A table that New did not make, in a world that keeps what lay ahead of B. -/
structure NoOne (B : Nat) (w0 w : World) (a : Option Addr) : Prop where
  below : Below B w0 w
  size : B ≤ w.heap.size
  nobody : Nobody w (.pointer a)
theorem NoOne.on {B : Nat} {w0 w w' : World} {a : Option Addr} (h : NoOne B w0 w a) (hb : Below w.heap.size w w') : NoOne B w0 w' a :=
  ⟨h.below.trans (hb.mono h.size), Nat.le_trans h.size hb.size, h.nobody.below hb⟩

/-- The two tables of the law. -/
def TwoNo (w' : World) (g : Nat) : Prop := ∀ k : Nat, k < 2 → ∃ a, w'.cell? ⟨g + 1, k, none⟩ = some (.pointer a) ∧ Nobody w' (.pointer a)

theorem TwoNo.below {w w' : World} {g : Nat} (h : TwoNo w g) (hb : Below w.heap.size w w') : TwoNo w' g := by
  intro k hk
  obtain ⟨a, hc, hn⟩ := h k hk
  exact ⟨a, by rw [hb.cell (World.block_lt_of_cell? w _ hc)]; exact hc, hn.below hb⟩

theorem two_start (w : World) : Below w.heap.size w ((w.alloc (.cells #[.int .i64 0, .slice none 0 0, .map none, .slice none 0 0, .map none, .int .i64 0, .int .i64 0, .pointer none] 51)).alloc (.cells #[.pointer none, .pointer (some ⟨w.heap.size, 0, none⟩)] 23)) ∧
    w.heap.size ≤ ((w.alloc (.cells #[.int .i64 0, .slice none 0 0, .map none, .slice none 0 0, .map none, .int .i64 0, .int .i64 0, .pointer none] 51)).alloc (.cells #[.pointer none, .pointer (some ⟨w.heap.size, 0, none⟩)] 23)).heap.size ∧
    TwoNo ((w.alloc (.cells #[.int .i64 0, .slice none 0 0, .map none, .slice none 0 0, .map none, .int .i64 0, .int .i64 0, .pointer none] 51)).alloc (.cells #[.pointer none, .pointer (some ⟨w.heap.size, 0, none⟩)] 23)) w.heap.size := by
  generalize ho : Obj.cells #[.int .i64 0, .slice none 0 0, .map none, .slice none 0 0, .map none, .int .i64 0, .int .i64 0, .pointer none] 51 = o
  have e1 : (w.alloc o).heap.size = w.heap.size + 1 := by simp
  have c1 := heap_alloc_new (w.alloc o) (.cells #[.pointer none, .pointer (some ⟨w.heap.size, 0, none⟩)] 23)
  rw [e1] at c1
  have c0 := (heap_alloc_old (w.alloc o) (.cells #[.pointer none, .pointer (some ⟨w.heap.size, 0, none⟩)] 23) (show w.heap.size < _ by omega)).trans (heap_alloc_new w o)
  refine ⟨((Below.refl _ _).alloc (Nat.le_refl _) _).alloc (by simp) _, by simp <;> omega, fun k hk => ?_⟩
  match k, hk with
  | 0, _ => exact ⟨none, by rw [cell_at c1]; rfl, Or.inl rfl⟩
  | 1, _ => exact ⟨some ⟨w.heap.size, 0, none⟩, by rw [cell_at c1]; rfl, Or.inr ⟨w.heap.size, rfl, by subst ho; rw [cell_at c0]; rfl⟩⟩
  | (k + 2), h => omega

end Go.Proofs.Ytffngpdngjfcfaa
namespace Go.Proofs.Ytffngpdngjfcfaa
open Go.RowKit Go.Maps
open Bd (Nd)

set_option maxHeartbeats 400000 in
theorem Write_err {w : World} {p : Value} {err : Int} (he : err = 4 ∨ err = 22) (r : Int) (h : RootErr w p (.int .i64 r) err) : Calls Try.prog 11 #[p, .int .i64 r] w fun e w' => ∃ v, e = .returned (.tuple #[v, .int .i64 err]) ∧ Below w.heap.size w w' := by
  have Q := keep (List_err he r h)
  have hne : (err != 0) = true := by rcases he with rfl | rfl <;> rfl
  clear h he
  go_enter Try.func11, Try.ntmps11
  go_wp2_with fail
  refine Q.out.mono ?_
  rintro e w1 ⟨v, rfl, hb⟩
  have HB := keep hb
  clear hb Q
  go_wp2
  go_ret2
  exact ⟨_, rfl, HB.out⟩
set_option maxHeartbeats 400000 in
theorem dSize_err {w : World} {p : Value} {err : Int} (he : err = 4 ∨ err = 22) (r : Int) (h : RootErr w p (.int .i64 r) err) : Calls Try.prog 15 #[p, .int .i64 r] w fun e w' => ∃ v, e = .returned (.tuple #[v, .int .i64 err]) ∧ Below w.heap.size w w' := by
  have Q := keep (List_err he r h)
  have hne : (err != 0) = true := by rcases he with rfl | rfl <;> rfl
  clear h he
  go_enter Try.func15, Try.ntmps15
  go_wp2_with fail
  refine Q.out.mono ?_
  rintro e w1 ⟨v, rfl, hb⟩
  have HB := keep hb
  clear hb Q
  go_wp2
  go_ret2
  exact ⟨_, rfl, HB.out⟩
set_option maxHeartbeats 400000 in
theorem Read_no {w : World} {p : Value} (h : Nobody w p) (v : Value) : Calls Try.prog 12 #[p, v] w fun e w' => ∃ a b, e = .returned (.tuple #[a, b, .int .i64 4]) ∧ w' = w := by
  have Q := keep (dmade_no h)
  clear h
  go_enter Try.func12, Try.ntmps12
  go_wp2_with fail
  refine Q.out.mono ?_
  rintro e w1 ⟨rfl, rfl⟩
  clear Q
  go_wp2
  go_ret3
  exact ⟨_, _, rfl, rfl⟩
set_option maxHeartbeats 400000 in
theorem Move_no {w : World} {p q : Value} (h : Nobody w p) (v : Value) : Calls Try.prog 16 #[p, q, v] w fun e w' => ∃ a, e = .returned (.tuple #[a, .int .i64 4]) ∧ w' = w := by
  have Q := keep (dmade_no h)
  clear h
  go_enter Try.func16, Try.ntmps16
  go_wp2_with fail
  refine Q.out.mono ?_
  rintro e w1 ⟨rfl, rfl⟩
  clear Q
  go_wp2
  go_ret2
  exact ⟨_, rfl, rfl⟩
set_option maxHeartbeats 400000 in
theorem Move_to_no {w : World} {y : Lay} {s : St} {q : Value} (hT : Tab w y s) (h : Nobody w q) (v : Value) : Calls Try.prog 16 #[.pointer (some ⟨y.tb, 0, none⟩), q, v] w fun e w' => ∃ a, e = .returned (.tuple #[a, .int .i64 4]) ∧ w' = w := by
  have P := keep (dmade_ok hT)
  have Q := keep (dmade_no h)
  clear h hT
  go_enter Try.func16, Try.ntmps16
  go_wp2_with fail
  refine P.out.mono ?_
  rintro e w1 ⟨rfl, rfl⟩
  go_wp2_with fail
  refine Q.out.mono ?_
  rintro e w2 ⟨rfl, rfl⟩
  clear Q P
  go_wp2
  go_ret2
  exact ⟨_, rfl, rfl⟩

set_option maxRecDepth 8000 in
set_option maxHeartbeats 4000000 in
theorem dnobody_any (v : Value) (bad : Int) (w : World) (hbad : bad ≤ 9223372036854775807) : Calls Try.prog 5 #[v, .int .i64 bad] w fun e w' => e = .returned (.bool true) ∧ Below w.heap.size w w' := by
  have HN := keep (New_ok w 3 9 (by omega) (by omega) (by omega))
  go_enter Try.func5, Try.ntmps5
  go_wp2_with fail
  refine HN.out.mono ?_
  rintro e w1 ⟨y, rfl, hT, hb, hy⟩
  have HT := keep hT
  have HB := keep hb
  clear hT hb hy HN
  have HBAD := keep hbad
  go_wp2
  go_loopw [40] (fun i wr => ∃ k : Nat, k ≤ 2 ∧ i = .int .i64 k ∧ Hid (Below w1.heap.size w1 wr ∧ w1.heap.size ≤ wr.heap.size ∧ TwoNo wr w1.heap.size)) (fun i _ => 2 - (intOf i).toNat)
  case atStart => exact ⟨0, by omega, rfl, two_start w1⟩
  case round =>
    obtain ⟨k, hk, rfl, H⟩ := hrel
    by_cases hlt : k < 2
    · have hkI : (0 : Int) ≤ (k : Int) := by omega
      have hkI2 : (k : Int) < 2 := by omega
      obtain ⟨a, hc, hn⟩ := H.out.2.2 k hlt
      have N0 : Hid (NoOne wr.heap.size wr wr a) := ⟨Below.refl _ _, Nat.le_refl _, hn⟩
      clear hn
      go_wp2_with fail
      refine (Write_err (Or.inl rfl) 0 (root_err_no N0.out.nobody _)).mono ?_
      rintro e w2 ⟨r2, rfl, hb⟩
      have N2 := keep (N0.out.on hb)
      clear hb N0
      go_wp2_with fail
      refine (Read_no N2.out.nobody v).mono ?_
      rintro e w3 ⟨r3, s3, rfl, rfl⟩
      go_wp2_with fail
      refine (dSize_err (Or.inl rfl) 1 (root_err_no N2.out.nobody _)).mono ?_
      rintro e w4 ⟨r4, rfl, hb⟩
      have N4 := keep (N2.out.on hb)
      clear hb N2
      go_wp2_with fail
      refine (Move_no N4.out.nobody _).mono ?_
      rintro e w5 ⟨r5, rfl, rfl⟩
      have HTO := keep ((HT.out.below H.out.1).below N4.out.below)
      go_wp2_with fail
      refine (Move_to_no HTO.out N4.out.nobody _).mono ?_
      rintro e w6 ⟨r6, rfl, rfl⟩
      have HX : Hid (Below w1.heap.size w1 w6 ∧ w1.heap.size ≤ w6.heap.size ∧ TwoNo w6 w1.heap.size) := ⟨H.out.1.trans (N4.out.below.mono H.out.2.1), Nat.le_trans H.out.2.1 N4.out.below.size, H.out.2.2.below N4.out.below⟩
      clear N4 HTO H hc
      go_wp2
      go_roundw
      case rel => exact ⟨k + 1, by omega, by go_num, HX⟩
      case measure => simp [intOf]; omega
    · have hk2 : k = 2 := by omega
      subst hk2
      have HBW : Hid (Below w.heap.size w wr) := HB.out.trans (H.out.1.mono HB.out.size)
      have HTW := keep (HT.out.below H.out.1)
      clear H
      by_cases h0 : bad = 0
      · subst h0
        go_wp2_with fail
        refine (dawake_any wr).mono ?_
        rintro e w2 ⟨rfl, hb⟩
        have HB2 : Hid (Below w.heap.size w w2) := HBW.out.trans (hb.mono HBW.out.size)
        clear hb
        go_wp2
        go_ret
        exact ⟨rfl, HB2.out⟩
      · by_cases h1 : bad = 1
        · subst h1
          go_wp2_with fail
          refine (dawake_any wr).mono ?_
          rintro e w2 ⟨rfl, hb⟩
          have HB2 : Hid (Below w.heap.size w w2) := HBW.out.trans (hb.mono HBW.out.size)
          clear hb
          go_wp2
          go_ret
          exact ⟨rfl, HB2.out⟩
        · have e0 : (bad == 0) = false := by rw [beq_eq_false_iff_ne]; exact h0
          have e1 : (bad == 1) = false := by rw [beq_eq_false_iff_ne]; exact h1
          have HBD : Hid (Bad ⟨[], [], 2, 3, 9⟩ bad) := ⟨h0, h1, by show bad < ((2 : Nat) : Int) ∨ ((2 : Nat) : Int) + ((0 : Nat) : Int) ≤ bad; omega, HBAD.out⟩
          go_wp2_with fail
          refine (Write_err (Or.inr rfl) bad (root_bad HTW.out bad HBD.out)).mono ?_
          rintro e w2 ⟨r2, rfl, hb⟩
          have HB2 : Hid (Below w.heap.size w w2) := HBW.out.trans (hb.mono HBW.out.size)
          have HT2 := keep (HTW.out.below hb)
          clear hb HBW HTW
          go_wp2_with fail
          refine (dSize_err (Or.inr rfl) bad (root_bad HT2.out bad HBD.out)).mono ?_
          rintro e w3 ⟨r3, rfl, hb⟩
          have HB3 : Hid (Below w.heap.size w w3) := HB2.out.trans (hb.mono HB2.out.size)
          clear hb HB2 HT2
          go_wp2_with fail
          refine (dawake_any w3).mono ?_
          rintro e w4 ⟨rfl, hb⟩
          have HB4 : Hid (Below w.heap.size w w4) := HB3.out.trans (hb.mono HB3.out.size)
          clear hb HB3
          go_wp2
          go_ret
          exact ⟨by simp, HB4.out⟩
end Go.Proofs.Ytffngpdngjfcfaa
namespace Go.Proofs.Ytffngpdngjfcfaa
open Go.ChangeShapes Go.WideShapes Go.ChangeAt Go.RowKit

theorem DCNobody.own : ownKnob Try.prog.godebug = none := by kernel_rfl
theorem DCNobody.laidOut : laidOutB Try.prog = true := by kernel_rfl

set_option maxRecDepth 100000 in
theorem DCNobody.lifted (os : Os) (started : os.Started) (H : Type) (enc : TypeId × Value → H) :
    ReturnsInHanded {} Try.checked os 5 .any (Rows.dumpNobodySpec.pre6 enc Try.prog Try.f5 Rows.dumpNobodyRow.domain false) (Rows.dumpNobodySpec.post enc Try.prog Try.f5 false true false false) := by
  refine returnsInHanded_of_change (C := Try.checked) DCNobody.own started (by kernel_rfl) Try.func5
    (ChangeSpec.witness6 (enc := enc) (C := Try.checked) false ⟨#[], #[.slice none 0 0, .int .i64 0], []⟩ 8 (by kernel_rfl) (by kernel_rfl) (by kernel_rfl) (by kernel_rfl)) ?_
  intro W base args ds gs before hval0 hW hcnd _
  have hval : ∀ (j : Nat) t v, Try.f5.params[j]? = some t → args[j]? = some v → Value.okWide Try.prog W .any base t v := hval0
  have hW' := hW
  obtain ⟨p, q, hA0, hV, rfl, hfz, hnd⟩ := hW
  have hA : DataW.TrodAll enc Try.prog W 0 (fun _ => true) true Try.f5.params.toList args.toList ds p := hA0
  rw [Try.params5] at hA hval
  obtain ⟨v0, vs0, d0, ds0, p0, q0, hargs, rfl, rfl, h0, r0⟩ := trodAll_cons hA
  obtain ⟨v1, vs1, d1, ds1, p1, q1, rfl, rfl, rfl, h1, r1⟩ := trodAll_cons r0
  obtain ⟨rfl, rfl, rfl⟩ := trodAll_nil r1
  obtain rfl : args = #[v0, v1] := by cases args; simp_all
  obtain ⟨rfl, rfl⟩ := trodVars_none hV
  obtain ⟨a0, len0, cap0, rfl⟩ := okWide_slice Try.underlying29 (hval 0 29 v0 rfl rfl)
  have k0 := h0
  have lt0 : ∀ x ∈ p0, x.block < W.heap.size := by obtain ⟨m, hm⟩ := k0; exact DataW.trod_lt m _ _ _ hm
  obtain ⟨a1, rfl, rfl, rfl, w1⟩ := open_int Try.underlying3 (hval 1 3 v1 rfl rfl) h1
  clear hA0 hval0
  refine (dnobody_any (.slice a0 len0 cap0) a1 W (bounds_i64 w1).2).mono fun e W' ⟨he, bel⟩ => ?_
  subst he
  exact ⟨_, rfl, _, _, _, [], _, [], hW', trodAll_mk1 (shut_bool Try.underlying4 _), (trodAll_cons_mk (Below.trod DCNobody.laidOut (by kernel_rfl) (of_decide_eq_true (by kernel_rfl)) k0 bel lt0) (trodAll_cons_mk (shut_int Try.underlying3 w1) trodAll_mk0)), rfl, bel.frame _, fun h => by cases h⟩

theorem DumpNobody_holds : Rows.DumpNobodySaid :=
  OpenClaim.holds_of_wide 5 Try.f5 rfl rfl rfl rfl rfl rfl rfl ⟨rfl, rfl, rfl, rfl, rfl⟩ rfl rfl rfl rfl rfl (by kernel_rfl) Try.func5 (by kernel_rfl)
    (of_decide_eq_true (by kernel_rfl)) (by unfold Func.isWrapper; first | (rw [if_pos (by decide +kernel)]; kernel_rfl) | (rw [if_neg (by decide +kernel)]; exact ⟨rfl, rfl⟩))
    (fun os started H enc _ => DCNobody.lifted os started H enc)
#print axioms DumpNobody_holds
end Go.Proofs.Ytffngpdngjfcfaa
