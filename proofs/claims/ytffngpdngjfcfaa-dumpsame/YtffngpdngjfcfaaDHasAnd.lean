/-
  Proved: for every number of bits and every two rows of texts the law DumpSame answers true (two functions have the same bytes just when they hold of the same headers), and leaves its arguments as they were. Conditions: none.
  The law DumpSame.
  Functions that hold of the same headers; bytes that are the same.
  Has: does a function hold of a header?
-/
import Derived.Test.YtffngpdngjfcfaaDLayC
import Derived.Test.YtffngpdngjfcfaaBVisAnd
import Derived.Test.YtffngpdngjfcfaaReadAnd
import Derived.Test.YtffngpdngjfcfaaDAwakeAnd
import Derived.Test.YtffngpdngjfcfaaRows
import Derived.WalkKit
import Derived.ProofKit
import Derived.OpenShut
import Derived.ShutString
import Derived.SliceStrings
namespace Go.Proofs.Ytffngpdngjfcfaa
open Go.RowKit Go.Maps Go.Shelf
open Bd (Nd)

theorem Try.fCount : Try.laysCount_ren.f 138 = 78 := by kernel_rfl
theorem Count_x (s : ByteArray) (w : World) :
    Calls Try.prog 78 #[.string s, .string ⟨#[120]⟩] w fun e w' => e = .returned (.int .i64 (s.data.toList.count 120 : Int)) ∧ w' = w := by
  have h := Any.strings_Count_one Try.laysCount s 120 w
  rw [Try.fCount] at h
  exact h

/-- A header: letters 0 and 1. -/
def headerB (l : List UInt8) : Bool := l.all fun c => c == 48 || c == 49
theorem header_right {l : List UInt8} (h : headerB l = true) (h1 : 1 ≤ l.length) (h2 : l.length ≤ 128) : Cu.right l = true := by
  unfold Cu.right
  have : l.all Cu.sym = true := List.all_eq_true.2 fun c hc => by
    have := List.all_eq_true.1 h c hc
    unfold Cu.sym
    rw [this]; rfl
  rw [this, decide_eq_true h1, decide_eq_true h2]; rfl
theorem header_count {l : List UInt8} (h : headerB l = true) : l.count 120 = 0 := by
  refine List.count_eq_zero.2 fun hm => ?_
  have := List.all_eq_true.1 h 120 hm
  simp at this

set_option maxHeartbeats 400000 in
theorem Free_header (t : ByteArray) (w : World) (h : headerB t.data.toList = true) (h1 : 1 ≤ t.size) (h2 : t.size ≤ 128) :
    Calls Try.prog 42 #[.string t] w fun e w' => e = .returned (.tuple #[.int .i64 0, .int .i64 0]) ∧ Below w.heap.size w w' := by
  have q := check_any t w
  have e0 : chkE t = 0 := if_pos (header_right h h1 h2)
  rw [e0] at q
  have Q := keep q
  have C : Hid (∀ w, Calls Try.prog 78 #[.string t, .string ⟨#[120]⟩] w fun e w' => e = .returned (.int .i64 0) ∧ w' = w) := fun w => by
    have := Count_x t w
    rw [header_count h] at this
    exact this
  clear h q e0
  go_enter Try.func42, Try.ntmps42
  go_wp2_with fail
  refine Q.out.mono ?_
  rintro e w1 ⟨rfl, hb⟩
  have HB := keep hb
  clear hb Q
  go_wp2_with fail
  refine (C.out w1).mono ?_
  rintro e w2 ⟨rfl, rfl⟩
  go_wp2
  go_ret2
  exact ⟨rfl, HB.out⟩

/-- A header as what it says of each bit. -/
def hdr (t : ByteArray) (i : Nat) : Bool := t.data.toList.getD i 0 == 49

set_option maxHeartbeats 2000000 in
theorem holds_any {w : World} {y : Lay} {s : St} (hT : Tab w y s) (n : Nat) (hn : n < s.L.length + 2) (t : ByteArray) (ht : t.size = s.bits) :
    Calls Try.prog 43 #[.pointer (some ⟨y.tb, 3, none⟩), i6 n, .string t] w fun e w' => e = .returned (.bool (Bd.den s.L n (hdr t))) ∧ Below w.heap.size w w' := by
  have HT := keep hT
  have hsm := hT.small.1
  have hf := hT.okay.few
  clear hT
  go_enter Try.func43, Try.ntmps43
  go_wp2
  go_loopw [1] (fun u wr => ∃ m : Nat, u = .int .i64 m ∧ m < s.L.length + 2 ∧ Hid (Bd.den s.L m (hdr t) = Bd.den s.L n (hdr t) ∧ Below w.heap.size w wr)) (fun u _ => (intOf u).toNat)
  case atStart => exact ⟨n, rfl, hn, rfl, Below.refl _ _⟩
  case round =>
    obtain ⟨m, rfl, hm, HD⟩ := hrel
    by_cases h2 : m < 2
    · have h2I : ¬ (2 : Int) ≤ (m : Int) := by omega
      have hden : Bd.den s.L n (hdr t) = ((m : Int) == 1) := by
        rw [← HD.out.1]
        have : m = 0 ∨ m = 1 := by omega
        rcases this with rfl | rfl
        · rw [Bd.den_zero]; rfl
        · rw [Bd.den_one]; rfl
      have HDN := keep hden
      have HB := keep HD.out.2
      clear hden HD
      go_wp2
      go_ret
      exact ⟨by rw [HDN.out]; rfl, HB.out⟩
    · obtain ⟨i, rfl⟩ : ∃ i, m = i + 2 := ⟨m - 2, by omega⟩
      obtain ⟨x, hx⟩ : ∃ x, s.L[i]? = some x := ⟨s.L[i]'(by omega), List.getElem?_eq_getElem (by omega)⟩
      have hfit := HT.out.okay.fit i x hx
      have T1 := HT.out.below HD.out.2
      have c3 := T1.cell3
      obtain ⟨g, cap, hv, n0, n1, n2⟩ := T1.node hx
      rw [hv] at c3
      have hbt : x.1 < t.size := by omega
      have hg : t.data.toList.getD x.1 0 = t[x.1]'hbt := by
        rw [List.getD_eq_getElem?_getD, List.getElem?_eq_getElem (by simpa using hbt)]
        rfl
      have hdn : Bd.den s.L (i + 2) (hdr t) = if hdr t x.1 then Bd.den s.L x.2.2 (hdr t) else Bd.den s.L x.2.1 (hdr t) := by rw [Bd.den_at HT.out.okay hx]; rfl
      have e1 : ((i + 2 : Nat) : Int) = (i : Int) + 2 := by omega
      rw [e1]
      have hI2 : (2 : Int) ≤ (i : Int) + 2 := by omega
      have hiI : (i : Int) < (s.L.length : Int) := by omega
      have hxI : (x.1 : Int) < (t.size : Int) := by omega
      have hx0 : (0 : Int) ≤ (x.1 : Int) := by omega
      have HB := keep HD.out.2
      obtain ⟨len, hlen⟩ : ∃ len, len = s.L.length := ⟨_, rfl⟩
      have HLEN := keep hlen
      rw [← hlen] at c3 hiI hsm hm
      simp only [i6] at n0 n1 n2
      by_cases h49 : t.data.toList.getD x.1 0 = 49
      · have hcn : ((t[x.1]'hbt).toNat : Int) = 49 := by rw [← hg, h49]; rfl
        have HD2 : Hid (Bd.den s.L x.2.2 (hdr t) = Bd.den s.L n (hdr t)) := by
          show _ = _
          rw [← HD.out.1, hdn, if_pos (by unfold hdr; rw [h49]; rfl)]
        have hlt : x.2.2 < i + 2 := by omega
        clear hfit T1 hv hg hdn e1 hlen HD hx h49
        go_wp2
        go_roundw
        case rel => exact ⟨x.2.2, rfl, by rw [← HLEN.out]; omega, HD2.out, HB.out.alloc HB.out.size _⟩
        case measure => simp [intOf]; omega
      · have hcn : (((t[x.1]'hbt).toNat : Int) == 49) = false := by
          rw [beq_eq_false_iff_ne]; intro h; exact h49 (by rw [hg]; exact UInt8.toNat.inj (by simp; omega))
        have HD2 : Hid (Bd.den s.L x.2.1 (hdr t) = Bd.den s.L n (hdr t)) := by
          show _ = _
          rw [← HD.out.1, hdn, if_neg (by unfold hdr; rw [beq_iff_eq]; exact h49)]
        have hlt : x.2.1 < i + 2 := by omega
        clear hfit T1 hv hg hdn e1 hlen HD hx h49
        go_wp2
        go_roundw
        case rel => exact ⟨x.2.1, rfl, by rw [← HLEN.out]; omega, HD2.out, HB.out.alloc HB.out.size _⟩
        case measure => simp [intOf]; omega

set_option maxHeartbeats 1000000 in
theorem Has_ok {w : World} {y : Lay} {s : St} (hT : Tab w y s) (h2 : 2 ≤ s.first) (r n : Nat) (hn : s.node? r = some n) (hnl : n < s.L.length + 2) (t : ByteArray) (ht : t.size = s.bits) (hh : headerB t.data.toList = true) :
    Calls Try.prog 14 #[.pointer (some ⟨y.tb, 0, none⟩), .int .i64 r, .string t] w fun e w' => e = .returned (.tuple #[.bool (Bd.den s.L n (hdr t)), .int .i64 0]) ∧ Below w.heap.size w w' := by
  have hb := hT.okay.few
  have hb1 := hT.small.2.2.2.2
  have Q1 := keep (root_ok hT h2 r n hn)
  have HF := keep (fun w => Free_header t w hh (by omega) (by omega))
  have HH := keep (fun w' hb' => holds_any (w := w') (hT.below hb') n hnl t ht)
  have c5 : ∀ w', Below w.heap.size w w' → w'.cell? ⟨y.tb, 5, none⟩ = some (.int .i64 s.bits) := fun w' hb' => by rw [cell_at (hT.below hb').cells]; rfl
  have C5 := keep c5
  have hne : ((t.size : Int) != (s.bits : Int)) = false := by rw [ht]; simp
  clear hT c5 hh
  go_enter Try.func14, Try.ntmps14
  go_wp2_with fail
  refine Q1.out.mono ?_
  rintro e w1 ⟨rfl, hb1⟩
  have HB1 := keep hb1
  clear hb1 Q1
  go_wp2_with fail
  refine (HF.out w1).mono ?_
  rintro e w2 ⟨rfl, hb2⟩
  have HB2 : Hid (Below w.heap.size w w2) := HB1.out.trans (hb2.mono HB1.out.size)
  have c5 := C5.out w2 HB2.out
  clear hb2 HF
  go_wp2_with fail
  refine (HH.out w2 HB2.out).mono ?_
  rintro e w3 ⟨rfl, hb3⟩
  have HB3 : Hid (Below w.heap.size w w3) := HB2.out.trans (hb3.mono HB2.out.size)
  clear hb3 HH
  go_wp2
  go_ret2
  exact ⟨rfl, HB3.out⟩
end Go.Proofs.Ytffngpdngjfcfaa
namespace Go.Proofs.Ytffngpdngjfcfaa
open Go.RowKit Go.Maps
open Bd (Nd ff tt)

/-- A function of a table asks no bit beyond the table's. -/
theorem den_upto {bits : Nat} {L : List Nd} (hL : Bd.Okay bits L) (h h' : Nat → Bool) (hh : ∀ j, j < bits → h j = h' j) : ∀ k n, n < k → n < L.length + 2 → Bd.den L n h = Bd.den L n h' := by
  intro k
  induction k with
  | zero => intro n hn; omega
  | succ k ih =>
    intro n hn hl
    rcases Nat.lt_or_ge n 2 with h2 | h2
    · have : n = 0 ∨ n = 1 := by omega
      rcases this with rfl | rfl
      · rw [Bd.den_zero]; rfl
      · rw [Bd.den_one]; rfl
    · obtain ⟨i, rfl⟩ : ∃ i, n = i + 2 := ⟨n - 2, by omega⟩
      obtain ⟨x, hx⟩ : ∃ x, L[i]? = some x := ⟨L[i]'(by omega), List.getElem?_eq_getElem (by omega)⟩
      have hfit := hL.fit i x hx
      rw [Bd.den_at hL hx]
      unfold Bd.mux
      rw [hh x.1 (by omega), ih x.2.1 (by omega) (by omega), ih x.2.2 (by omega) (by omega)]

/-- Bits as a number. -/
def toN : Nat → (Nat → Bool) → Nat
  | 0, _ => 0
  | k + 1, h => (if h 0 = true then 1 else 0) + 2 * toN k (fun i => h (i + 1))
theorem toN_lt : ∀ k h, toN k h < 2 ^ k := by
  intro k
  induction k with
  | zero => intro h; simp [toN]
  | succ k ih =>
    intro h
    have := ih (fun i => h (i + 1))
    show (if h 0 = true then 1 else 0) + 2 * toN k (fun i => h (i + 1)) < 2 ^ (k + 1)
    rw [Nat.pow_succ]
    split <;> omega
theorem toN_bit : ∀ k h i, i < k → (toN k h / 2 ^ i % 2 == 1) = h i := by
  intro k
  induction k with
  | zero => intro h i hi; omega
  | succ k ih =>
    intro h i hi
    show (((if h 0 = true then 1 else 0) + 2 * toN k (fun i => h (i + 1))) / 2 ^ i % 2 == 1) = h i
    cases i with
    | zero =>
      rw [Nat.pow_zero, Nat.div_one]
      cases h 0
      · have e : ((if false = true then 1 else 0) + 2 * toN k (fun i => h (i + 1))) % 2 = 0 := by simp
        rw [e]; rfl
      · have e : ((if true = true then 1 else 0) + 2 * toN k (fun i => h (i + 1))) % 2 = 1 := by simp
        rw [e]; rfl
    | succ i =>
      have e : ((if h 0 = true then 1 else 0) + 2 * toN k (fun i => h (i + 1))) / 2 ^ (i + 1) = toN k (fun i => h (i + 1)) / 2 ^ i := by
        have e2 : ((if h 0 = true then 1 else 0) + 2 * toN k (fun i => h (i + 1))) / 2 = toN k (fun i => h (i + 1)) := by split <;> omega
        rw [show 2 ^ (i + 1) = 2 * 2 ^ i by rw [Nat.pow_succ, Nat.mul_comm], ← Nat.div_div_eq_div_mul, e2]
      rw [e]
      exact ih (fun i => h (i + 1)) i (by omega)

/-- The header of a number, as the law writes it. -/
def hLet (n i : Nat) : UInt8 := UInt8.ofNat (48 + n / 2 ^ i % 2)
def hText (nb n : Nat) : List UInt8 := (List.range nb).map (hLet n)
theorem hLet_cases (n i : Nat) : (n / 2 ^ i % 2 = 0 ∧ hLet n i = 48) ∨ (n / 2 ^ i % 2 = 1 ∧ hLet n i = 49) := by
  have : n / 2 ^ i % 2 = 0 ∨ n / 2 ^ i % 2 = 1 := by omega
  rcases this with h | h
  · left; exact ⟨h, by unfold hLet; rw [h]; rfl⟩
  · right; exact ⟨h, by unfold hLet; rw [h]; rfl⟩
theorem hText_length (nb n : Nat) : (hText nb n).length = nb := by simp [hText]
theorem hText_header (nb n : Nat) : headerB (hText nb n) = true := by
  unfold headerB
  rw [List.all_eq_true]
  intro c hc
  unfold hText at hc
  obtain ⟨i, _, rfl⟩ := List.mem_map.1 hc
  rcases hLet_cases n i with ⟨_, h⟩ | ⟨_, h⟩ <;> rw [h] <;> rfl
theorem hText_hdr {nb n i : Nat} (hi : i < nb) : hdr ⟨(hText nb n).toArray⟩ i = (n / 2 ^ i % 2 == 1) := by
  unfold hdr
  have e : (ByteArray.mk (hText nb n).toArray).data.toList.getD i 0 = hLet n i := by
    show (hText nb n).getD i 0 = _
    unfold hText
    rw [List.getD_eq_getElem?_getD, List.getElem?_map, List.getElem?_range hi]; rfl
  rw [e]
  rcases hLet_cases n i with ⟨h1, h⟩ | ⟨h1, h⟩ <;> rw [h, h1] <;> rfl

/-- Do two functions agree at the first k headers? -/
def agr (nb : Nat) (f g : Bd.Fn) (k : Nat) : Bool := (List.range k).all fun n => f (hdr ⟨(hText nb n).toArray⟩) == g (hdr ⟨(hText nb n).toArray⟩)
theorem agr_succ (nb : Nat) (f g : Bd.Fn) (k : Nat) : agr nb f g (k + 1) = (agr nb f g k && (f (hdr ⟨(hText nb k).toArray⟩) == g (hdr ⟨(hText nb k).toArray⟩))) := by
  unfold agr
  rw [List.range_succ, List.all_append]
  simp
theorem agr_all {nb : Nat} {L L' : List Nd} {m m' : Nat} (hL : Bd.Okay nb L) (hL' : Bd.Okay nb L') (hm : m < L.length + 2) (hm' : m' < L'.length + 2) : agr nb (Bd.den L m) (Bd.den L' m') (2 ^ nb) = true ↔ Bd.den L m = Bd.den L' m' := by
  constructor
  · intro h
    funext x
    have hh : ∀ j, j < nb → x j = hdr ⟨(hText nb (toN nb x)).toArray⟩ j := fun j hj => by rw [hText_hdr hj, toN_bit nb x j hj]
    rw [den_upto hL x _ hh (m + 1) m (by omega) hm, den_upto hL' x _ hh (m' + 1) m' (by omega) hm']
    have := List.all_eq_true.1 h (toN nb x) (List.mem_range.2 (toN_lt nb x))
    simpa using this
  · intro h
    unfold agr
    rw [List.all_eq_true]
    intro n _
    rw [h]
    simp

theorem four_inj {a b : Nat} (ha : a < 4294967296) (hb : b < 4294967296) (h : four a = four b) : a = b := by rw [← four_num a ha, ← four_num b hb, h]
theorem ofNat_inj {a b : Nat} (ha : a < 256) (hb : b < 256) (h : UInt8.ofNat a = UInt8.ofNat b) : a = b := by
  have := congrArg UInt8.toNat h
  rw [UInt8.toNat_ofNat', UInt8.toNat_ofNat'] at this
  omega
theorem nodes_inj {bits : Nat} : ∀ {Q Q' : List Nd}, (∀ x, x ∈ Q → x.1 < 256 ∧ x.2.1 < 4294967296 ∧ x.2.2 < 4294967296) → (∀ x, x ∈ Q' → x.1 < 256 ∧ x.2.1 < 4294967296 ∧ x.2.2 < 4294967296) → Q.length = Q'.length → Q.flatMap nodeB = Q'.flatMap nodeB → bits = bits → Q = Q' := by
  intro Q
  induction Q with
  | nil => intro Q' _ _ hl _ _; exact (List.length_eq_zero_iff.1 hl.symm).symm
  | cons x Q ih =>
    intro Q' h1 h2 hl h _
    cases Q' with
    | nil => simp at hl
    | cons x' Q' =>
      rw [List.flatMap_cons, List.flatMap_cons] at h
      obtain ⟨e1, e2⟩ := List.append_inj h rfl
      have r := ih (fun z hz => h1 z (List.mem_cons_of_mem _ hz)) (fun z hz => h2 z (List.mem_cons_of_mem _ hz)) (by simpa using hl) e2 rfl
      have hx := h1 x (List.mem_cons_self ..)
      have hx' := h2 x' (List.mem_cons_self ..)
      unfold nodeB at e1
      obtain ⟨e3, e5⟩ := List.append_inj e1 rfl
      obtain ⟨e4, e6⟩ := List.append_inj e3 rfl
      have a0 := ofNat_inj hx.1 hx'.1 (by simpa using e4)
      have a1 := four_inj hx.2.1 hx'.2.1 e6
      have a2 := four_inj hx.2.2 hx'.2.2 e5
      obtain ⟨p0, p1, p2⟩ := x
      obtain ⟨q0, q1, q2⟩ := x'
      simp only at a0 a1 a2
      rw [r, a0, a1, a2]

/-- The same bytes are those of the same function. -/
theorem dump_same {nb : Nat} {w w' : World} {y y' : Lay} {L L' : List Nd} {roots roots' : List Nat} {lim lim' a a' m m' : Nat} (hT : Tab w y ⟨L, roots, 2, nb, lim⟩) (hT' : Tab w' y' ⟨L', roots', 2, nb, lim'⟩) (f1 : St.node? ⟨L, roots, 2, nb, lim⟩ a = some m) (f1' : St.node? ⟨L', roots', 2, nb, lim'⟩ a' = some m') (hm : m < L.length + 2) (hm' : m' < L'.length + 2) :
    (dumpB nb (listOf L m) a = dumpB nb (listOf L' m') a') ↔ Bd.den L m = Bd.den L' m' := by
  have hO : Bd.Okay nb L := hT.okay
  have hO' : Bd.Okay nb L' := hT'.okay
  have hok := list_okay hO hm
  have hok' := list_okay hO' hm'
  have hs : L.length ≤ 1073741824 := hT.small.1
  have hs' : L'.length ≤ 1073741824 := hT'.small.1
  have hq : (listOf L m).length ≤ L.length + 2 := by have := list_few hO hm; omega
  have hq' : (listOf L' m').length ≤ L'.length + 2 := by have := list_few hO' hm'; omega
  have hft : (ff : Bd.Fn) ≠ tt := fun e => by have := congrFun e (fun _ => false); cases this
  have er : ∀ h0 : (listOf L m).length = 0, (a = 0 ∧ Bd.den L m = ff) ∨ (a = 1 ∧ Bd.den L m = tt) := fun h0 => (end_ref hT f1 hm h0).2
  have er' : ∀ h0 : (listOf L' m').length = 0, (a' = 0 ∧ Bd.den L' m' = ff) ∨ (a' = 1 ∧ Bd.den L' m' = tt) := fun h0 => (end_ref hT' f1' hm' h0).2
  have hf128 : nb ≤ 128 := hT.okay.few
  constructor
  · intro h
    unfold dumpB at h
    obtain ⟨e1, e2⟩ := List.append_inj h rfl
    unfold headB at e1
    obtain ⟨_, e4⟩ := List.append_inj e1 rfl
    have hl := four_inj (by omega) (by omega) e4
    by_cases h0 : (listOf L m).length = 0
    · rw [if_pos h0, if_pos (by rw [← hl]; exact h0)] at e2
      have hra : a = a' := by
        rcases er h0 with ⟨x1, _⟩ | ⟨x1, _⟩ <;> rcases er' (by rw [← hl]; exact h0) with ⟨z1, _⟩ | ⟨z1, _⟩ <;> exact ofNat_inj (by omega) (by omega) (by simpa using e2)
      rcases er h0 with ⟨x1, x2⟩ | ⟨x1, x2⟩ <;> rcases er' (by rw [← hl]; exact h0) with ⟨z1, z2⟩ | ⟨z1, z2⟩
      · rw [x2, z2]
      · omega
      · omega
      · rw [x2, z2]
    · rw [if_neg h0, if_neg (by rw [← hl]; exact h0)] at e2
      have bnd : ∀ {Q : List Nd}, Bd.Okay nb Q → Q.length ≤ 1073741826 → ∀ x, x ∈ Q → x.1 < 256 ∧ x.2.1 < 4294967296 ∧ x.2.2 < 4294967296 := fun hQ hl x hx => by
        obtain ⟨i, hi⟩ := List.getElem?_of_mem hx
        have hfit := hQ.fit i x hi
        have := Bd.getElem?_lt hi
        omega
      have eQ := nodes_inj (bits := nb) (bnd hok.1 (by omega)) (bnd hok'.1 (by omega)) hl e2 rfl
      rcases Nat.lt_or_ge m 2 with h2 | h2
      · rw [list_end h2] at h0; exact absurd rfl h0
      · rcases Nat.lt_or_ge m' 2 with h2' | h2'
        · rw [hl, list_end h2'] at h0; exact absurd rfl h0
        · obtain ⟨_, d1⟩ := list_rel hO h2 hm
          obtain ⟨_, d1'⟩ := list_rel hO' h2' hm'
          rw [d1.2, d1'.2, eQ]
  · intro h
    have eQ : listOf L m = listOf L' m' := list_alike hO hO' ⟨hm, hm', h⟩
    rw [eQ]
    refine dumpB_same fun h0 => ?_
    rcases er (by rw [eQ]; exact h0) with ⟨x1, x2⟩ | ⟨x1, x2⟩ <;> rcases er' h0 with ⟨z1, z2⟩ | ⟨z1, z2⟩
    · omega
    · exact absurd (x2.symm.trans (h.trans z2)) hft
    · exact absurd (x2.symm.trans (h.trans z2)).symm hft
    · omega
end Go.Proofs.Ytffngpdngjfcfaa
namespace Go.Proofs.Ytffngpdngjfcfaa
open Go.RowKit Go.Maps
open Bd (Nd ff tt)

/-- What is at hand behind the two writes. -/
structure SameAt (w W : World) (nb tb1 a tb2 b g1 n1 c1 g2 n2 c2 : Nat) (f1 f2 : Bd.Fn) (t1 t2 : ByteArray) : Prop where
  below : Below w.heap.size w W
  has1 : ∀ wr, Below W.heap.size W wr → ∀ n, Calls Try.prog 14 #[.pointer (some ⟨tb1, 0, none⟩), .int .i64 a, .string ⟨(hText nb n).toArray⟩] wr fun e w' => e = .returned (.tuple #[.bool (f1 (hdr ⟨(hText nb n).toArray⟩)), .int .i64 0]) ∧ Below wr.heap.size wr w'
  has2 : ∀ wr, Below W.heap.size W wr → ∀ n, Calls Try.prog 14 #[.pointer (some ⟨tb2, 0, none⟩), .int .i64 b, .string ⟨(hText nb n).toArray⟩] wr fun e w' => e = .returned (.tuple #[.bool (f2 (hdr ⟨(hText nb n).toArray⟩)), .int .i64 0]) ∧ Below wr.heap.size wr w'
  text1 : ∀ wr, Below W.heap.size W wr → (convert 29 9 (.slice (some ⟨g1, 0, none⟩) n1 c1)).run Try.prog wr = .ok (.string t1) wr
  text2 : ∀ wr, Below W.heap.size W wr → (convert 29 9 (.slice (some ⟨g2, 0, none⟩) n2 c2)).run Try.prog wr = .ok (.string t2) wr
  same : agr nb f1 f2 (2 ^ nb) = decide (t1 = t2)

theorem same_chain {nb M1 M2 : Nat} {A1 : Bd.Fam nb M1} {A2 : Bd.Fam nb M2} {w w2 w3 : World} {tb1 tb2 a b : Nat} {f1 f2 : Bd.Fn} (hb : Below w.heap.size w w2) (h1 : MadeEnd A1 1048576 w w2 tb1 24 a f1) (h2 : MadeEnd A2 1048576 w2 w3 tb2 24 b f2) :
    Calls Try.prog 11 #[.pointer (some ⟨tb1, 0, none⟩), .int .i64 a] w3 fun e w4 => ∃ g1 n1 c1 : Nat, e = .returned (.tuple #[.slice (some ⟨g1, 0, none⟩) n1 c1, .int .i64 0]) ∧
      Hid (Calls Try.prog 11 #[.pointer (some ⟨tb2, 0, none⟩), .int .i64 b] w4 fun e w5 => ∃ g2 n2 c2 : Nat, e = .returned (.tuple #[.slice (some ⟨g2, 0, none⟩) n2 c2, .int .i64 0]) ∧
        Hid (∃ t1 t2, SameAt w w5 nb tb1 a tb2 b g1 n1 c1 g2 n2 c2 f1 f2 t1 t2)) := by
  obtain ⟨y1, L1, roots1, m1, rfl, hT1, hW1, hK1, hB1, hy1, p1, p2, p3⟩ := h1.ex
  obtain ⟨y2, L2, roots2, m2, rfl, hT2, hW2, hK2, hB2, hy2, q1, q2, q3⟩ := h2.ex
  have hB3 : Below w.heap.size w w3 := hb.trans (hB2.mono hb.size)
  have hT13 := hT1.below hB2
  refine (Write_ok (s := ⟨L1, roots1, 2, nb, 1048576⟩) hT13 (Nat.le_refl _) a m1 p1 p2).mono ?_
  rintro e w4 ⟨v4, rfl, hrow4, _, hb4⟩
  have hrow4' : w4.ownsRow 0 5 1 v4 (dumpB nb (listOf L1 m1) a).length (byts (dumpB nb (listOf L1 m1) a)) := hrow4
  obtain ⟨g1, c1, rfl, _, _⟩ := hrow4'.form (dumpB_pos _ _ _)
  refine ⟨g1, _, c1, rfl, ?_⟩
  have hT14 := hT13.below hb4
  have hT24 := hT2.below hb4
  refine (Write_ok (s := ⟨L2, roots2, 2, nb, 1048576⟩) hT24 (Nat.le_refl _) b m2 q1 q2).mono ?_
  rintro e w5 ⟨v5, rfl, hrow5, _, hb5⟩
  have hrow5' : w5.ownsRow 0 5 1 v5 (dumpB nb (listOf L2 m2) b).length (byts (dumpB nb (listOf L2 m2) b)) := hrow5
  obtain ⟨g2, c2, rfl, _, _⟩ := hrow5'.form (dumpB_pos _ _ _)
  refine ⟨g2, _, c2, rfl, ⟨(dumpB nb (listOf L1 m1) a).toArray⟩, ⟨(dumpB nb (listOf L2 m2) b).toArray⟩, ?_⟩
  have hT15 := hT14.below hb5
  have hT25 := hT24.below hb5
  have hrow45 := row_same hrow4' (w' := w5) fun g hg => hb5.block g (hrow4'.lt g hg).2
  have hsz : ∀ n, (ByteArray.mk (hText nb n).toArray).size = nb := fun n => by show (hText nb n).toArray.size = nb; rw [List.size_toArray, hText_length]
  have hB4 : Below w.heap.size w w4 := hB3.trans (hb4.mono hB3.size)
  refine ⟨hB4.trans (hb5.mono hB4.size), fun wr hwr n => ?_, fun wr hwr n => ?_, fun wr hwr => ?_, fun wr hwr => ?_, ?_⟩
  · have := Has_ok (s := ⟨L1, roots1, 2, nb, 1048576⟩) (hT15.below hwr) (Nat.le_refl _) a m1 p1 p2 ⟨(hText nb n).toArray⟩ (hsz n) (hText_header nb n)
    rw [show Bd.den (St.L ⟨L1, roots1, 2, nb, 1048576⟩) m1 = f1 from p3] at this
    exact this
  · have := Has_ok (s := ⟨L2, roots2, 2, nb, 1048576⟩) (hT25.below hwr) (Nat.le_refl _) b m2 q1 q2 ⟨(hText nb n).toArray⟩ (hsz n) (hText_header nb n)
    rw [show Bd.den (St.L ⟨L2, roots2, 2, nb, 1048576⟩) m2 = f2 from q3] at this
    exact this
  · exact byts_text (row_same hrow45 fun g hg => hwr.block g (hrow45.lt g hg).2)
  · exact byts_text (row_same hrow5' fun g hg => hwr.block g (hrow5'.lt g hg).2)
  · have k1 := agr_all (L := L1) (L' := L2) hT15.okay hT25.okay p2 q2
    have k2 := dump_same hT15 hT25 p1 q1 p2 q2
    rw [p3, q3] at k1 k2
    refine bool_ext ?_
    rw [k1, decide_eq_true_iff, ← k2]
    constructor
    · intro h; rw [h]
    · intro h
      have h' := congrArg (fun z : ByteArray => z.data.toList) h
      simpa using h'

theorem byts_set (l : List UInt8) (i : Nat) (c : UInt8) : (byts l).set i (.int .u8 (c.toNat : Int)) = byts (l.set i c) := by simp [byts, List.map_set]
theorem text_next {nb k j : Nat} {l : List UInt8} (hl : j < l.length) (hj : j < nb) : ((hText nb k).take j ++ l.drop j).set j (hLet k j) = (hText nb k).take (j + 1) ++ l.drop (j + 1) := by
  have hlen : ((hText nb k).take j).length = j := by rw [List.length_take, hText_length]; omega
  have hx : (hText nb k)[j]? = some (hLet k j) := by unfold hText; rw [List.getElem?_map, List.getElem?_range hj]; rfl
  rw [List.drop_eq_getElem_cons hl, List.take_add_one, hx]
  have key : ∀ (A B : List UInt8) (a b : UInt8), (A ++ a :: B).set A.length b = A ++ b :: B := fun A B a b => by
    induction A with
    | nil => rfl
    | cons x A ih => rw [List.cons_append, List.length_cons, List.set_cons_succ, ih]; rfl
  have := key ((hText nb k).take j) (l.drop (j + 1)) l[j] (hLet k j)
  rw [hlen] at this
  rw [this]
  simp
theorem i64_and1 (n : Int) : bits .and .i64 n 1 = n % 2 := by
  have h1 : (BitVec.ofInt 64 1).toNat = 2 ^ 1 - 1 := by decide
  have key : (BitVec.ofInt 64 n &&& BitVec.ofInt 64 1).toNat = (n % ((2 ^ 64 : Nat) : Int)).toNat % 2 ^ 1 := by
    rw [BitVec.toNat_and, BitVec.toNat_ofInt, h1, Nat.and_two_pow_sub_one_eq_mod]
  show IntKind.i64.wrap ((BitVec.ofInt 64 n &&& BitVec.ofInt 64 1).toNat : Nat) = n % 2
  rw [key, IntKind.wrap_i64]
  omega
theorem letter_val (k j : Nat) : ((48 + bits BinOp.and IntKind.i64 ((k : Int) / 2 ^ j) 1) % 256 : Int) = ((hLet k j).toNat : Int) := by
  have e : (k : Int) / 2 ^ j = ((k / 2 ^ j : Nat) : Int) := by simp
  rw [e, i64_and1]
  rcases hLet_cases k j with ⟨h1, h⟩ | ⟨h1, h⟩
  · rw [h]
    have : ((k / 2 ^ j : Nat) : Int) % 2 = 0 := by omega
    rw [this]; rfl
  · rw [h]
    have : ((k / 2 ^ j : Nat) : Int) % 2 = 1 := by omega
    rw [this]; rfl
theorem run_bytes (n : Nat) (hn : n ≤ 100000000000) (w : World) : (Instr.makeSlice 29 (.int .i64 (n : Int)) (.int .i64 (n : Int))).run Try.prog w = .ok (.slice (some ⟨w.heap.size, 0, none⟩) n n) (w.alloc (.cells (madeCells #[.int .u8 0] n) 5)) := by
  obtain ⟨i, hi, hz0, hz1, hz2⟩ := info_parts Try.infoByteD
  have := run_make (P := Try.prog) w 29 5 i (.int .u8 0) Try.underlying29 hi hz0 .i64 .i64 (n : Int) (n : Int) (by omega) (by omega) (by rw [hz2]; omega) (by omega)
  rw [this, hz1]
  simp
  rfl
theorem bytes_zero (n : Nat) (hn : n ≤ 100000000000) (w : World) : (w.alloc (.cells (madeCells #[.int .u8 0] n) 5)).ownsRow 0 5 1 (.slice (some ⟨w.heap.size, 0, none⟩) n n) n (byts (List.replicate n 0)) := by
  refine ⟨by simp [byts], Or.inr ⟨w.heap.size, n, _, rfl, Nat.zero_le _, heap_alloc_new w _, Nat.le_refl _, by unfold maxLen; omega, by rw [size_madeCells, Nat.mul_one], ?_⟩⟩
  rw [toList_madeCells_one, Nat.mul_one]
  simp [byts]

set_option maxRecDepth 4000 in
set_option maxHeartbeats 4000000 in
theorem dsame_great (bits : Int) (hb : 10 < bits) (v1 v2 : Value) (w : World) :
    Calls Try.prog 4 #[.int .i64 bits, v1, v2] w fun e w' => e = .returned (.bool true) ∧ Below w.heap.size w w' := by
  go_enter Try.func4, Try.ntmps4
  go_wp2_with fail
  refine (dawake_any w).mono ?_
  rintro e w2 ⟨rfl, hb2⟩
  have HB := keep hb2
  clear hb2
  go_wp2
  go_ret
  exact ⟨rfl, HB.out⟩
set_option maxRecDepth 4000 in
set_option maxHeartbeats 4000000 in
theorem dsame_low (bits : Int) (hb : bits < 1) (v1 v2 : Value) (w : World) :
    Calls Try.prog 4 #[.int .i64 bits, v1, v2] w fun e w' => e = .returned (.bool true) ∧ Below w.heap.size w w' := by
  have HM := keep (fun v w => dmade_bad bits (Or.inl hb) v w)
  have h10 : ¬ 10 < bits := by omega
  clear hb
  go_enter Try.func4, Try.ntmps4
  go_wp2_with fail
  refine (dawake_any w).mono ?_
  rintro e w2 ⟨rfl, hb2⟩
  have HB := keep hb2
  clear hb2
  go_wp2_with fail
  refine (HM.out _ _).mono ?_
  rintro e w3 ⟨rfl, rfl⟩
  go_wp2_with fail
  refine (HM.out _ _).mono ?_
  rintro e w4 ⟨rfl, rfl⟩
  go_wp2
  go_ret
  exact ⟨rfl, HB.out⟩

set_option maxRecDepth 4000 in
set_option maxHeartbeats 8000000 in
theorem dsame_in (nb : Nat) (h1 : 1 ≤ nb) (h2 : nb ≤ 10) (a1 a2 : Option Addr) (len1 cap1 len2 cap2 : Nat) (ss1 ss2 : List ByteArray) (w : World) (hv1 : Came w a1 len1 cap1 ss1) (hv2 : Came w a2 len2 cap2 ss2) :
    Calls Try.prog 4 #[.int .i64 nb, .slice a1 len1 cap1, .slice a2 len2 cap2] w fun e w' => e = .returned (.bool true) ∧ Below w.heap.size w w' := by
  have hM4 : nb * 2 ^ 12 ≤ 524288 := by omega
  have HM1 := keep (fun w hv => dmade_any (orFam nb 12 (rights nb ss1) (rights_size nb ss1) (rights_few nb ss1)) 1048576 a1 len1 cap1 ss1 w hv (orIn_rights nb ss1) h1 (by omega) (by omega) (by omega) hM4)
  have HM2 := keep (fun w hv => dmade_any (orFam nb 12 (rights nb ss2) (rights_size nb ss2) (rights_few nb ss2)) 1048576 a2 len2 cap2 ss2 w hv (orIn_rights nb ss2) h1 (by omega) (by omega) (by omega) hM4)
  have HV1 := keep hv1
  have HV2 := keep hv2
  have h10 : ¬ (10 : Int) < (nb : Int) := by omega
  have hnI : (nb : Int) ≤ 10 := by omega
  clear hv1 hv2 hM4
  go_enter Try.func4, Try.ntmps4
  go_wp2_with fail
  refine (dawake_any w).mono ?_
  rintro e w1 ⟨rfl, hb1⟩
  have HB1 := keep hb1
  clear hb1
  go_wp2_with fail
  refine (HM1.out w1 (came_below HV1.out HB1.out)).mono ?_
  rintro e w2 ⟨tb1, qb1, a, b1, rfl, hE1⟩
  have HE1 := keep hE1
  clear hE1 HM1
  go_wp2_with fail
  refine (HM2.out w2 (came_below (came_below HV2.out HB1.out) (by obtain ⟨_, _, _, _, _, _, _, _, h, _⟩ := HE1.out.ex; exact h))).mono ?_
  rintro e w3 ⟨tb2, qb2, b, b2, rfl, hE2⟩
  have HCH : Hid (Calls Try.prog 11 #[.pointer (some ⟨tb1, 0, none⟩), .int .i64 a] w3 fun e w4 => ∃ g1 n1 c1 : Nat, e = .returned (.tuple #[.slice (some ⟨g1, 0, none⟩) n1 c1, .int .i64 0]) ∧
      Hid (Calls Try.prog 11 #[.pointer (some ⟨tb2, 0, none⟩), .int .i64 b] w4 fun e w5 => ∃ g2 n2 c2 : Nat, e = .returned (.tuple #[.slice (some ⟨g2, 0, none⟩) n2 c2, .int .i64 0]) ∧
        Hid (∃ t1 t2, SameAt w w5 nb tb1 a tb2 b g1 n1 c1 g2 n2 c2 (madeF nb ss1 (min len1 12)) (madeF nb ss2 (min len2 12)) t1 t2))) := by
    obtain ⟨y, L, roots, m, x1, x2, x3, x4, x5, x6, x7⟩ := HE1.out.ex
    have hb2 : Below w.heap.size w w2 := HB1.out.trans (x5.mono HB1.out.size)
    exact same_chain hb2 ⟨y, L, roots, m, x1, x2, x3, x4, hb2, fun j hj => Nat.le_trans HB1.out.size (x6 j hj), x7⟩ hE2
  clear hE2 HM2 HE1 HV1 HV2
  go_wp2_with fail
  refine HCH.out.mono ?_
  rintro e w4 ⟨g1, n1, c1, rfl, HW2⟩
  clear HCH
  go_wp2_with fail
  refine HW2.out.mono ?_
  rintro e w5 ⟨g2, n2, c2, rfl, HS⟩
  obtain ⟨t1, t2, hs⟩ := HS.out
  have HSA := keep hs
  clear hs HS HW2
  have hmk := run_bytes nb (by omega) w5
  have HR0 : Hid ((w5.alloc (.cells (madeCells #[.int .u8 0] nb) 5)).ownsRow 0 5 1 (.slice (some ⟨w5.heap.size, 0, none⟩) nb nb) nb (byts (List.replicate nb 0))) := bytes_zero nb (by omega) w5
  go_wp2_with fail
  obtain ⟨f1, hf1⟩ : ∃ f1, f1 = madeF nb ss1 (min len1 12) := ⟨_, rfl⟩
  obtain ⟨f2, hf2⟩ : ∃ f2, f2 = madeF nb ss2 (min len2 12) := ⟨_, rfl⟩
  rw [← hf1, ← hf2] at HSA
  clear hf1 hf2 hmk HB1
  obtain ⟨P, hP⟩ : ∃ P, P = 2 ^ nb := ⟨_, rfl⟩
  have HP := keep hP
  have hP1 : P ≤ 1024 := by
    rw [hP]
    have : 2 ^ nb ≤ 2 ^ 10 := Nat.pow_le_pow_right (by omega) h2
    have e : (2 : Nat) ^ 10 = 1024 := by decide
    omega
  have hwr : wrap64 ((2 : Int) ^ nb) = (P : Int) := by
    have e : (2 : Int) ^ nb = ((2 ^ nb : Nat) : Int) := by simp
    rw [e, ← hP]
    unfold wrap64
    omega
  clear hP
  go_loopw [21, 23] (fun p i wr => ∃ (k : Nat) (l : List UInt8), k ≤ P ∧ i = .int .i64 k ∧ p = .bool (agr nb f1 f2 k) ∧ Hid (l.length = nb ∧ Below w5.heap.size w5 wr ∧ wr.ownsRow 0 5 1 (.slice (some ⟨w5.heap.size, 0, none⟩) nb nb) nb (byts l))) (fun _ i _ => P - (intOf i).toNat)
  case atStart => exact ⟨0, List.replicate nb 0, Nat.zero_le _, rfl, rfl, by simp, (Below.refl _ _).alloc (Nat.le_refl _) _, HR0.out⟩
  case round =>
    obtain ⟨k, l, hk, rfl, rfl, HI⟩ := hrel
    rename World => wo
    by_cases hlt : k < P
    · have hkI : (k : Int) < (P : Int) := by omega
      have hk0 : (0 : Int) ≤ (k : Int) := by omega
      go_wp2_with fail
      go_loopw [24] (fun i wr => ∃ j : Nat, j ≤ nb ∧ i = .int .i64 j ∧ Hid (Below w5.heap.size w5 wr ∧ wr.ownsRow 0 5 1 (.slice (some ⟨w5.heap.size, 0, none⟩) nb nb) nb (byts ((hText nb k).take j ++ l.drop j)))) (fun i _ => nb - (intOf i).toNat)
      case atStart => exact ⟨0, Nat.zero_le _, rfl, HI.out.2.1, by simpa using HI.out.2.2⟩
      case round =>
        obtain ⟨j, hj, rfl, HJ⟩ := hrel
        by_cases hjl : j < nb
        · have hjI : (j : Int) < (nb : Int) := by omega
          have hj0 : (0 : Int) ≤ (j : Int) := by omega
          have hrow := HJ.out.2
          have hfz := hrow.frozenAt j
          obtain ⟨cv, hcv⟩ : ∃ cv, wr.cell? ⟨w5.heap.size, j, none⟩ = some cv := by
            rw [hrow.cellAt j (by omega)]
            have : j < (byts ((hText nb k).take j ++ l.drop j)).length := by rw [hrow.1]; omega
            exact ⟨_, List.getElem?_eq_getElem this⟩
          clear hrow
          have HV := keep (letter_val k j)
          go_wp2_with fail
          go_roundw
          case rel =>
            refine ⟨j + 1, by omega, by go_num, HJ.out.1.setCell (Nat.le_refl _) _, ?_⟩
            rw [HV.out]
            have h := (HJ.out.2.stored j (.int .u8 ((hLet k j).toNat : Int))).1
            rw [byts_set, text_next (by rw [HI.out.1]; exact hjl) hjl] at h
            exact h
          case measure => simp [intOf]; omega
        · have hjn : j = nb := by omega
          subst hjn
          have HRW : Hid (wr.ownsRow 0 5 1 (.slice (some ⟨w5.heap.size, 0, none⟩) j j) j (byts (hText j k))) := by
            have h := HJ.out.2
            rw [List.take_of_length_le (by rw [hText_length]; exact Nat.le_refl _), List.drop_eq_nil_of_le (by rw [HI.out.1]; exact Nat.le_refl _), List.append_nil] at h
            exact h
          have hcv : (convert 29 9 (.slice (some ⟨w5.heap.size, 0, none⟩) j j)).run Try.prog wr = .ok (.string ⟨(hText j k).toArray⟩) wr := by
            have h := HRW.out
            have e : j = (hText j k).length := (hText_length j k).symm
            have h' : wr.ownsRow 0 5 1 (.slice (some ⟨w5.heap.size, 0, none⟩) (hText j k).length j) (hText j k).length (byts (hText j k)) := by rw [← e]; exact h
            have hb := byts_text h'
            rw [← e] at hb
            exact hb
          have HBJ := keep HJ.out.1
          have H1 := keep (HSA.out.has1 wr HBJ.out k)
          clear HJ HI
          go_wp2_with fail
          refine H1.out.mono ?_
          rintro e w6 ⟨rfl, hb6⟩
          have HB6 := keep (HBJ.out.trans (hb6.mono HBJ.out.size))
          have HRW6 : Hid (w6.ownsRow 0 5 1 (.slice (some ⟨w5.heap.size, 0, none⟩) j j) j (byts (hText j k))) := row_same HRW.out fun g hg => hb6.block g (HRW.out.lt g hg).2
          have hcv6 : (convert 29 9 (.slice (some ⟨w5.heap.size, 0, none⟩) j j)).run Try.prog w6 = .ok (.string ⟨(hText j k).toArray⟩) w6 := by
            have h := HRW6.out
            have e : j = (hText j k).length := (hText_length j k).symm
            have h' : w6.ownsRow 0 5 1 (.slice (some ⟨w5.heap.size, 0, none⟩) (hText j k).length j) (hText j k).length (byts (hText j k)) := by rw [← e]; exact h
            have hb := byts_text h'
            rw [← e] at hb
            exact hb
          have H2 := keep (HSA.out.has2 w6 HB6.out k)
          clear hb6 H1 HRW hcv HBJ
          go_wp2_with fail
          refine H2.out.mono ?_
          rintro e w7 ⟨rfl, hb7⟩
          have HB7 := keep (HB6.out.trans (hb7.mono HB6.out.size))
          have HRW7 : Hid (w7.ownsRow 0 5 1 (.slice (some ⟨w5.heap.size, 0, none⟩) j j) j (byts (hText j k))) := row_same HRW6.out fun g hg => hb7.block g (HRW6.out.lt g hg).2
          have HAG := keep (agr_succ j f1 f2 k)
          clear hb7 H2 HRW6 hcv6 HB6
          generalize hg1 : f1 (hdr ⟨(hText j k).toArray⟩) = v1 at *
          generalize hg2 : f2 (hdr ⟨(hText j k).toArray⟩) = v2 at *
          clear hg1 hg2
          have HRL : Hid ((hText j k).length = j ∧ Below w5.heap.size w5 w7 ∧ w7.ownsRow 0 5 1 (.slice (some ⟨w5.heap.size, 0, none⟩) j j) j (byts (hText j k))) := ⟨hText_length j k, HB7.out, HRW7.out⟩
          generalize hga : agr j f1 f2 k = ag at *
          clear hga HB7 HRW7
          cases ag
          · go_wp2_with fail
            go_roundw
            case rel => exact ⟨k + 1, hText j k, by omega, by go_num, by rw [HAG.out]; rfl, HRL.out⟩
            case measure => simp [intOf]; omega
          · go_wp2_with fail
            go_roundw
            case rel => exact ⟨k + 1, hText j k, by omega, by go_num, by rw [HAG.out]; simp, HRL.out⟩
            case measure => simp [intOf]; omega
    · have hkn : k = P := by omega
      have hkI : ¬ (k : Int) < (P : Int) := by omega
      have HAG : Hid (agr nb f1 f2 k = decide (t1 = t2)) := by
        show _ = _
        rw [hkn, HP.out]; exact HSA.out.same
      have ht1 := HSA.out.text1 wo HI.out.2.1
      have ht2 := HSA.out.text2 wo HI.out.2.1
      have HB : Hid (Below w.heap.size w wo) := HSA.out.below.trans (HI.out.2.1.mono HSA.out.below.size)
      rw [HAG.out]
      clear HAG HSA HI HR0 hkn
      by_cases hq : t1 = t2
      · subst hq
        have hd : decide (t1 = t1) = true := by simp
        rw [hd]
        go_wp2_with fail
        go_ret
        exact ⟨by simp, HB.out⟩
      · have hd : decide (t1 = t2) = false := decide_eq_false hq
        rw [hd]
        have hbq : ¬ t1.toList = t2.toList := fun h => hq (by
          rw [ByteArray.toList_eq, ByteArray.toList_eq] at h
          cases t1
          cases t2
          simpa using h)
        go_wp2_with fail
        go_ret
        exact ⟨by simp [hbq], HB.out⟩

theorem dsame_any (bits : Int) (a1 a2 : Option Addr) (len1 cap1 len2 cap2 : Nat) (ss1 ss2 : List ByteArray) (w : World) (hv1 : Came w a1 len1 cap1 ss1) (hv2 : Came w a2 len2 cap2 ss2) :
    Calls Try.prog 4 #[.int .i64 bits, .slice a1 len1 cap1, .slice a2 len2 cap2] w fun e w' => e = .returned (.bool true) ∧ Below w.heap.size w w' := by
  by_cases h : 10 < bits
  · exact dsame_great bits h _ _ w
  · by_cases h' : bits < 1
    · exact dsame_low bits h' _ _ w
    · obtain ⟨nb, rfl⟩ : ∃ nb : Nat, bits = (nb : Int) := ⟨bits.toNat, by omega⟩
      exact dsame_in nb (by omega) (by omega) a1 a2 len1 cap1 len2 cap2 ss1 ss2 w hv1 hv2
end Go.Proofs.Ytffngpdngjfcfaa
namespace Go.Proofs.Ytffngpdngjfcfaa
open Go.ChangeShapes Go.WideShapes Go.ChangeAt Go.RowKit
open Go.ChangeMaps (open_string shut_string)

theorem DCSame.own : ownKnob Try.prog.godebug = none := by kernel_rfl
theorem DCSame.laidOut : laidOutB Try.prog = true := by kernel_rfl

set_option maxRecDepth 100000 in
theorem DCSame.lifted (os : Os) (started : os.Started) (H : Type) (enc : TypeId × Value → H) :
    ReturnsInHanded {} Try.checked os 4 .any (Rows.dumpSameSpec.pre6 enc Try.prog Try.f4 Rows.dumpSameRow.domain false) (Rows.dumpSameSpec.post enc Try.prog Try.f4 false true false false) := by
  refine returnsInHanded_of_change (C := Try.checked) DCSame.own started (by kernel_rfl) Try.func4
    (ChangeSpec.witness6 (enc := enc) (C := Try.checked) false ⟨#[], #[.int .i64 0, .slice none 0 0, .slice none 0 0], []⟩ 8 (by kernel_rfl) (by kernel_rfl) (by kernel_rfl) (by kernel_rfl)) ?_
  intro W base args ds gs before hval0 hW hcnd _
  have hval : ∀ (j : Nat) t v, Try.f4.params[j]? = some t → args[j]? = some v → Value.okWide Try.prog W .any base t v := hval0
  have hW' := hW
  obtain ⟨p, q, hA0, hV, rfl, hfz, hnd⟩ := hW
  have hA : DataW.TrodAll enc Try.prog W 0 (fun _ => true) true Try.f4.params.toList args.toList ds p := hA0
  rw [Try.params4] at hA hval
  obtain ⟨v0, vs0, d0, ds0, p0, q0, hargs, rfl, rfl, h0, r0⟩ := trodAll_cons hA
  obtain ⟨v1, vs1, d1, ds1, p1, q1, rfl, rfl, rfl, h1, r1⟩ := trodAll_cons r0
  obtain ⟨v2, vs2, d2, ds2, p2, q2, rfl, rfl, rfl, h2, r2⟩ := trodAll_cons r1
  obtain ⟨rfl, rfl, rfl⟩ := trodAll_nil r2
  obtain rfl : args = #[v0, v1, v2] := by cases args; simp_all
  obtain ⟨rfl, rfl⟩ := trodVars_none hV
  obtain ⟨a0, rfl, rfl, rfl, w0⟩ := open_int Try.underlying3 (hval 0 3 v0 rfl rfl) h0
  obtain ⟨a1, len1, cap1, rfl⟩ := okWide_slice Try.underlying22 (hval 1 22 v1 rfl rfl)
  have k1 := h1
  have lt1 : ∀ x ∈ p1, x.block < W.heap.size := by obtain ⟨m, hm⟩ := k1; exact DataW.trod_lt m _ _ _ hm
  obtain ⟨ss, hss⟩ : ∃ ss, Came W a1 len1 cap1 ss := by
    obtain ⟨fuel, hf⟩ := h1
    rcases open_strings Try.underlying22 Try.underlying9 (by kernel_rfl) hf with ⟨hcs, _⟩ | ⟨x, l, c, ss, hcs, _, hl, hm, hz, _, hcell, hws⟩
    · simp [Value.cells] at hcs
      obtain ⟨rfl, rfl, rfl⟩ := hcs
      exact ⟨[], Or.inl ⟨rfl, rfl, rfl, rfl⟩⟩
    · simp [Value.cells] at hcs
      obtain ⟨rfl, rfl, rfl⟩ := hcs
      exact ⟨ss, Or.inr ⟨_, rfl, hl, hm, by simpa using hz, hcell, hws⟩⟩
  obtain ⟨a2, len2, cap2, rfl⟩ := okWide_slice Try.underlying22 (hval 2 22 v2 rfl rfl)
  have k2 := h2
  have lt2 : ∀ x ∈ p2, x.block < W.heap.size := by obtain ⟨m, hm⟩ := k2; exact DataW.trod_lt m _ _ _ hm
  obtain ⟨ss', hss'⟩ : ∃ ss, Came W a2 len2 cap2 ss := by
    obtain ⟨fuel, hf⟩ := h2
    rcases open_strings Try.underlying22 Try.underlying9 (by kernel_rfl) hf with ⟨hcs, _⟩ | ⟨x, l, c, ss, hcs, _, hl, hm, hz, _, hcell, hws⟩
    · simp [Value.cells] at hcs
      obtain ⟨rfl, rfl, rfl⟩ := hcs
      exact ⟨[], Or.inl ⟨rfl, rfl, rfl, rfl⟩⟩
    · simp [Value.cells] at hcs
      obtain ⟨rfl, rfl, rfl⟩ := hcs
      exact ⟨ss, Or.inr ⟨_, rfl, hl, hm, by simpa using hz, hcell, hws⟩⟩
  clear hA0 hval0
  refine (dsame_any a0 a1 a2 len1 cap1 len2 cap2 ss ss' W hss hss').mono fun e W' ⟨he, bel⟩ => ?_
  subst he
  exact ⟨_, rfl, _, _, _, [], _, [], hW', trodAll_mk1 (shut_bool Try.underlying4 _), (trodAll_cons_mk (shut_int Try.underlying3 w0) (trodAll_cons_mk (Below.trod DCSame.laidOut (by kernel_rfl) (of_decide_eq_true (by kernel_rfl)) k1 bel lt1) (trodAll_cons_mk (Below.trod DCSame.laidOut (by kernel_rfl) (of_decide_eq_true (by kernel_rfl)) k2 bel lt2) trodAll_mk0))), rfl, bel.frame _, fun h => by cases h⟩

theorem DumpSame_holds : Rows.DumpSameSaid :=
  OpenClaim.holds_of_wide 4 Try.f4 rfl rfl rfl rfl rfl rfl rfl ⟨rfl, rfl, rfl, rfl, rfl⟩ rfl rfl rfl rfl rfl (by kernel_rfl) Try.func4 (by kernel_rfl)
    (of_decide_eq_true (by kernel_rfl)) (by unfold Func.isWrapper; first | (rw [if_pos (by decide +kernel)]; kernel_rfl) | (rw [if_neg (by decide +kernel)]; exact ⟨rfl, rfl⟩))
    (fun os started H enc _ => DCSame.lifted os started H enc)
#print axioms DumpSame_holds
end Go.Proofs.Ytffngpdngjfcfaa
