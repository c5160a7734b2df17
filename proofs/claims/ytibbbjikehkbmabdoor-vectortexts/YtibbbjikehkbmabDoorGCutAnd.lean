/-
  What Read has so far: a row of one's own in a box, the place of the next part; one stamp more.
  strings.SplitSeq at a space: the iterator over a text's parts.
  Texts of vectors as mathematics: numbers, parts, what is read, and that a text reads as its vector.
  strings.Cut and strings.Index at a separator of one byte.
-/
import Derived.Test.YtibbbjikehkbmabDoorGTxtAnd
import Derived.Lib.Bytealg
import Derived.Lib.IndexAny
import Derived.Lib.UnsafeStr
import Derived.Laws.IdiomCopy
import Derived.Lib.ParseIntBTie
import Derived.Test.YtibbbjikehkbmabDoorGGathAnd
import Derived.Test.YtibbbjikehkbmabDoorGRangeAnd
import Derived.Test.YtibbbjikehkbmabDoorGStepAnd
namespace Go.Proofs.YtibbbjikehkbmabDoor.Ve
open Go.RowKit

theorem run_indexByte (s : ByteArray) (c : Int) (w : World) : (callFunc 91 #[.string s, .int .u8 c]).run Tryd.prog w = .ok (.value (.int .i64 (Lib.indexByte s.data.toList c.toNat.toUInt8))) w := by
  rw [run_callFunc_extern Tryd.func91 (by kernel_rfl) (by kernel_rfl) (by kernel_rfl) (e := Extern.BytealgIndexByte.indexByte) (by kernel_rfl), Lib.run_indexByteString]
  rfl

set_option maxHeartbeats 400000 in
theorem Index_one (s : ByteArray) (c : UInt8) (w : World) :
    Calls Tryd.prog 71 #[.string s, .string ⟨#[c]⟩] w fun e w' => e = .returned (.int .i64 (Lib.indexByte s.data.toList c)) ∧ w' = w := by
  have hx : ∀ w : World, (callFunc 91 #[.string s, .int .u8 (((⟨#[c]⟩ : ByteArray)[0]'(by show 0 < 1; omega)).toNat : Int)]).run Tryd.prog w = .ok (.value (.int .i64 (Lib.indexByte s.data.toList c))) w := fun w => by
    have := run_indexByte s (c.toNat : Int) w
    have e : ((c.toNat : Int)).toNat.toUInt8 = c := by simp
    rw [e] at this
    exact this
  by_cases he : [c] = s.toList
  · have hb : ([c] == s.toList) = true := by rw [← he]; simp
    have HD := hid (show Lib.indexByte s.data.toList c = 0 by
      rw [← Lib.toList_data, ← he]; simp [Lib.indexByte])
    clear he
    go_enter Tryd.func71, Tryd.ntmps71
    go_wp2
    go_ret
    exact ⟨(by rw [HD.out]; rfl), rfl⟩
  · have hb : ([c] == s.toList) = false := beq_eq_false_iff_ne.2 he
    clear he
    go_enter Tryd.func71, Tryd.ntmps71
    go_wp2
    go_ret
    exact ⟨rfl, rfl⟩

theorem index_hit (p t : List UInt8) (c : UInt8) (h : ∀ x ∈ p, x ≠ c) : Lib.indexByte (p ++ c :: t) c = (p.length : Int) := by
  induction p with
  | nil => simp [Lib.indexByte]
  | cons a p ih =>
    have e := ih (fun x hx => h x (List.mem_cons_of_mem _ hx))
    have ha : (a == c) = false := beq_eq_false_iff_ne.2 (h a (by simp))
    show Lib.indexByte (a :: (p ++ c :: t)) c = _
    unfold Lib.indexByte
    rw [ha, e]
    have : ((p.length : Int) == -1) = false := by rw [beq_eq_false_iff_ne]; omega
    rw [this]; simp
theorem index_miss (l : List UInt8) (c : UInt8) (h : ∀ x ∈ l, x ≠ c) : Lib.indexByte l c = -1 := by
  induction l with
  | nil => rfl
  | cons a p ih =>
    have e := ih (fun x hx => h x (List.mem_cons_of_mem _ hx))
    have ha : (a == c) = false := beq_eq_false_iff_ne.2 (h a (by simp))
    unfold Lib.indexByte
    rw [ha, e]; rfl
theorem split_at (l : List UInt8) (c : UInt8) : (∀ x ∈ l, x ≠ c) ∨ ∃ p t, l = p ++ c :: t ∧ ∀ x ∈ p, x ≠ c := by
  induction l with
  | nil => left; simp
  | cons a l ih =>
    by_cases h : a = c
    · right; exact ⟨[], l, by rw [h]; rfl, by simp⟩
    · rcases ih with ih | ⟨p, t, rfl, hp⟩
      · left; intro x hx; rcases List.mem_cons.1 hx with rfl | hx
        · exact h
        · exact ih x hx
      · right; refine ⟨a :: p, t, rfl, ?_⟩
        intro x hx; rcases List.mem_cons.1 hx with rfl | hx
        · exact h
        · exact hp x hx

theorem txV_size (l : List UInt8) : (txV l).size = l.length := by rw [Lib.size_eq]

set_option maxHeartbeats 400000 in
theorem cut_miss (l : List UInt8) (c : UInt8) (w : World) (h : ∀ x ∈ l, x ≠ c) :
    Calls Tryd.prog 56 #[.string (txV l), .string ⟨#[c]⟩] w fun e w' => e = .returned (.tuple #[.string (txV l), .string (txV []), .bool false]) ∧ ∃ n, w' = w.drewN n := by
  have q := fun w => Index_one (txV l) c w
  rw [show (txV l).data.toList = l from rfl, index_miss l c h] at q
  clear h
  go_enter Tryd.func56, Tryd.ntmps56
  go_wp2_with (go_at_call 71; refine (q _).mono ?_; rintro e w' ⟨rfl, rfl⟩)
  go_ret3
  exact ⟨rfl, 0, rfl⟩

set_option maxHeartbeats 400000 in
theorem cut_hit (p t : List UInt8) (c : UInt8) (w : World) (h : ∀ x ∈ p, x ≠ c) (hs : p.length + t.length + 1 ≤ maxLen) :
    Calls Tryd.prog 56 #[.string (txV (p ++ c :: t)), .string ⟨#[c]⟩] w fun e w' => e = .returned (.tuple #[.string (txV p), .string (txV t), .bool true]) ∧ ∃ n, w' = w.drewN n := by
  have q := fun w => Index_one (txV (p ++ c :: t)) c w
  rw [show (txV (p ++ c :: t)).data.toList = p ++ c :: t from rfl, index_hit p t c h] at q
  clear h
  unfold maxLen at hs
  have hsz : (txV (p ++ c :: t)).size = p.length + (t.length + 1) := by rw [txV_size]; simp
  have E1 := hid (show (txV (p ++ c :: t)).extract 0 p.length = txV p by
    rw [Lib.extract_eq]; congr 1; simp)
  have E2 := hid (show (txV (p ++ c :: t)).extract (p.length + 1) (txV (p ++ c :: t)).size = txV t by
    rw [Lib.extract_eq, hsz]; congr 1
    have : (p ++ c :: t).drop (p.length + 1) = t := by rw [List.drop_append]; simp
    rw [this, List.take_of_length_le (by omega)])
  obtain ⟨s, hsd⟩ : ∃ s, s = txV (p ++ c :: t) := ⟨_, rfl⟩
  rw [← hsd] at q E1 E2 hsz ⊢
  have HS := hid hsd
  clear hsd
  have HZ := hid hsz
  have hc1 : ((⟨#[c]⟩ : ByteArray).size : Int) = 1 := rfl
  have c1 : (0 : Int) ≤ (p.length : Int) := by omega
  have c2 : (p.length : Int) ≤ (s.size : Int) := by omega
  have c3 : (0 : Int) ≤ (p.length : Int) + 1 := by omega
  have c4 : (p.length : Int) + 1 ≤ (s.size : Int) := by omega
  clear hsz
  go_enter Tryd.func56, Tryd.ntmps56
  go_wp2_with (go_at_call 71; refine (q _).mono ?_; rintro e w' ⟨rfl, rfl⟩)
  go_quiet (fail)
  go_wp2
  go_ret3
  refine ⟨?_, _, rfl⟩
  rw [← E1.out, ← E2.out]
  rfl

set_option maxHeartbeats 400000 in
theorem Cut_miss (l : List UInt8) (c : UInt8) (w : World) (h : ∀ x ∈ l, x ≠ c) :
    Calls Tryd.prog 43 #[.string (txV l), .string ⟨#[c]⟩] w fun e w' => e = .returned (.tuple #[.string (txV l), .string (txV []), .bool false]) ∧ ∃ n, w' = w.drewN n := by
  have H := hid h
  clear h
  go_enter Tryd.func43, Tryd.ntmps43
  go_wp2_with (go_at_call 56; refine (cut_miss l c _ H.out).mono ?_; rintro e w' ⟨rfl, n, rfl⟩)
  go_ret3
  exact ⟨rfl, n, rfl⟩

set_option maxHeartbeats 400000 in
theorem Cut_hit (p t : List UInt8) (c : UInt8) (w : World) (h : ∀ x ∈ p, x ≠ c) (hs : p.length + t.length + 1 ≤ maxLen) :
    Calls Tryd.prog 43 #[.string (txV (p ++ c :: t)), .string ⟨#[c]⟩] w fun e w' => e = .returned (.tuple #[.string (txV p), .string (txV t), .bool true]) ∧ ∃ n, w' = w.drewN n := by
  have H := hid h
  clear h
  have q := fun w => cut_hit p t c w H.out hs
  obtain ⟨s, hsd⟩ : ∃ s, s = txV (p ++ c :: t) := ⟨_, rfl⟩
  rw [← hsd] at q ⊢
  clear hsd
  go_enter Tryd.func43, Tryd.ntmps43
  go_wp2_with (go_at_call 56; refine (q _).mono ?_; rintro e w' ⟨rfl, n, rfl⟩)
  go_ret3
  exact ⟨rfl, n, rfl⟩
end Go.Proofs.YtibbbjikehkbmabDoor.Ve
namespace Go.Proofs.YtibbbjikehkbmabDoor.Ve
open Go.RowKit

theorem dec_big {u : Nat} (h : ¬ u < 10) : Lib.decDigits u = Lib.decDigits (u / 10) ++ [UInt8.ofNat (48 + u % 10)] := by rw [Lib.decDigits, dif_neg h]
theorem digit_nat {k : Nat} (h : k < 10) : (UInt8.ofNat (48 + k)).toNat = 48 + k := by simp; omega
theorem dec_digit (u : Nat) : ∀ b ∈ Lib.decDigits u, 48 ≤ b.toNat ∧ b.toNat ≤ 57 := by
  induction u using Nat.strongRecOn with
  | ind u ih =>
    intro b hb
    by_cases h : u < 10
    · rw [Lib.decDigits_one h, List.mem_singleton] at hb
      rw [hb, digit_nat h]
      omega
    · rw [dec_big h] at hb
      rcases List.mem_append.1 hb with hb | hb
      · exact ih (u / 10) (by omega) b hb
      · rw [List.mem_singleton] at hb
        rw [hb, digit_nat (Nat.mod_lt _ (by decide))]
        omega
theorem dec_none {u : Nat} {c : UInt8} (h : c.toNat < 48 ∨ 57 < c.toNat) : ∀ b ∈ Lib.decDigits u, b ≠ c := fun b hb e => by
  have := dec_digit u b hb
  rw [e] at this
  omega
theorem parse_snoc (c : UInt8) : ∀ (l : List UInt8) (a v : Nat), Lib.parseUint10 a l = .ok v → Lib.parseUint10 a (l ++ [c]) = Lib.parseUint10 v [c]
  | [], a, v, h => by
    simp only [Lib.parseUint10, Lib.NumEnd.ok.injEq] at h
    subst h
    rfl
  | b :: l, a, v, h => by
    obtain ⟨R, hR⟩ : ∃ R, R = Lib.parseUint10 v [c] := ⟨_, rfl⟩
    rw [List.cons_append, ← hR]
    unfold Lib.parseUint10 at h ⊢
    split at h
    · rename_i h1
      rw [if_pos h1]
      split at h
      · cases h
      · rename_i h2
        rw [if_neg h2]
        split at h
        · cases h
        · rename_i h3
          rw [if_neg h3, hR]
          exact parse_snoc c l _ v h
    · cases h
theorem parse_dec {u : Nat} (h : u < 18446744073709551616) : Lib.parseUint10 0 (Lib.decDigits u) = .ok u := by
  induction u using Nat.strongRecOn with
  | ind u ih =>
    by_cases h1 : u < 10
    · rw [Lib.decDigits_one h1]
      unfold Lib.parseUint10
      rw [digit_nat h1, if_pos (by omega), if_neg (by omega), if_neg (by omega)]
      unfold Lib.parseUint10
      congr 1
      omega
    · have hm : u % 10 < 10 := Nat.mod_lt _ (by decide)
      rw [dec_big h1, parse_snoc _ _ _ _ (ih (u / 10) (by omega) (by omega))]
      unfold Lib.parseUint10
      rw [digit_nat hm, if_pos (by omega), if_neg (by omega), if_neg (by omega)]
      unfold Lib.parseUint10
      congr 1
      omega
theorem dec_ne (u : Nat) : Lib.decDigits u ≠ [] := by
  intro e
  have := Lib.decDigits_length u
  rw [e, List.length_nil] at this
  have := Lib.nDigits_pos u
  omega
theorem parseB_dec {u : Nat} (h : u < 18446744073709551616) : Lib.parseUintB 64 (Lib.decDigits u) = .ok u := by
  rw [Lib.parseUintB_64]
  unfold Lib.parseMag
  rw [if_neg (dec_ne u), parse_dec h]
/-- The document's number, a byte more. -/
def stepN (n : Nat) (b : UInt8) : Nat := ((n * 10) % 18446744073709551616 + ((b.toNat + 208) % 256) % 10) % 18446744073709551616
def numL (l : List UInt8) : Nat := (l.take 20).foldl stepN 0
theorem stepN_lt (n : Nat) (b : UInt8) : stepN n b < 18446744073709551616 := Nat.mod_lt _ (by decide)
theorem fold_dec {u : Nat} (h : u < 18446744073709551616) : (Lib.decDigits u).foldl stepN 0 = u := by
  induction u using Nat.strongRecOn with
  | ind u ih =>
    by_cases h1 : u < 10
    · rw [Lib.decDigits_one h1, List.foldl_cons, List.foldl_nil]
      unfold stepN
      rw [digit_nat h1]
      omega
    · have hm : u % 10 < 10 := Nat.mod_lt _ (by decide)
      rw [dec_big h1, List.foldl_append, ih (u / 10) (by omega) (by omega), List.foldl_cons, List.foldl_nil]
      unfold stepN
      rw [digit_nat hm]
      omega
theorem num_dec {u : Nat} (h : u < 18446744073709551616) : numL (Lib.decDigits u) = u := by
  unfold numL
  rw [List.take_of_length_le (dec_20 h), fold_dec h]
/-- A part is a stamp's text. -/
def isP (s : List UInt8) (x : St) : Prop := (0 ≤ x.1 ∧ x.1 < 256) ∧ x.2 < 18446744073709551616 ∧ stS x = s
theorem cut_one {p q t r : List UInt8} {c : UInt8} (hp : ∀ x ∈ p, x ≠ c) (hq : ∀ x ∈ q, x ≠ c) (h : p ++ c :: t = q ++ c :: r) : p = q ∧ t = r := by
  induction p generalizing q with
  | nil =>
    cases q with
    | nil => exact ⟨rfl, by simpa using h⟩
    | cons b q => exact absurd (by simpa using (List.cons.inj h).1.symm) (hq b (by simp))
  | cons a p ih =>
    cases q with
    | nil => exact absurd (by simpa using (List.cons.inj h).1) (hp a (by simp))
    | cons b q =>
      obtain ⟨e, h⟩ := List.cons.inj h
      obtain ⟨e1, e2⟩ := ih (fun x hx => hp x (List.mem_cons_of_mem _ hx)) (fun x hx => hq x (List.mem_cons_of_mem _ hx)) h
      exact ⟨by rw [e, e1], e2⟩
theorem isP_cut {p t : List UInt8} {x : St} (hp : ∀ b ∈ p, b ≠ 58) (h : isP (p ++ 58 :: t) x) : p = Lib.decDigits x.1.toNat ∧ t = Lib.decDigits x.2 := by
  have h3 := h.2.2
  unfold stS stT at h3
  obtain ⟨e1, e2⟩ := cut_one hp (dec_none (by decide)) h3.symm
  exact ⟨e1, e2⟩
theorem isP_has {s : List UInt8} {x : St} (h : isP s x) : (58 : UInt8) ∈ s := by
  rw [← h.2.2]
  unfold stS stT
  simp
theorem isP_one {s : List UInt8} {x y : St} (hx : isP s x) (hy : isP s y) : x = y := by
  have e : stS x = stS y := hx.2.2.trans hy.2.2.symm
  unfold stS stT at e
  obtain ⟨e1, e2⟩ := cut_one (dec_none (by decide)) (dec_none (by decide)) e
  have h1 := parse_dec (u := x.1.toNat) (by have := hx.1; omega)
  have h2 := parse_dec hx.2.1
  rw [e1, parse_dec (by have := hy.1; omega)] at h1
  rw [e2, parse_dec hy.2.1] at h2
  simp only [Lib.NumEnd.ok.injEq] at h1 h2
  exact Prod.ext (by have := hx.1; have := hy.1; omega) h2.symm
/-- The stamp of a part, if it has one. -/
noncomputable def partO (s : List UInt8) : Option St := by
  classical exact if h : ∃ x, isP s x then some h.choose else none
theorem partO_some {s : List UInt8} {x : St} (h : isP s x) : partO s = some x := by
  unfold partO
  have hx : ∃ x, isP s x := ⟨x, h⟩
  rw [dif_pos hx, isP_one hx.choose_spec h]
theorem partO_none {s : List UInt8} (h : ∀ x, ¬ isP s x) : partO s = none := by
  unfold partO
  rw [dif_neg (fun ⟨x, hx⟩ => h x hx)]
/-- The parts between spaces. -/
def spl : List UInt8 → List (List UInt8)
  | [] => [[]]
  | c :: r => if c = 32 then [] :: spl r else match spl r with | [] => [[c]] | p :: ps => (c :: p) :: ps
theorem spl_one : ∀ {p : List UInt8}, (∀ x ∈ p, x ≠ 32) → spl p = [p]
  | [], _ => rfl
  | c :: r, h => by
    unfold spl
    rw [if_neg (h c (by simp)), spl_one (fun x hx => h x (List.mem_cons_of_mem _ hx))]
theorem spl_cut {t : List UInt8} : ∀ {p : List UInt8}, (∀ x ∈ p, x ≠ 32) → spl (p ++ 32 :: t) = p :: spl t
  | [], _ => by
    rw [List.nil_append, spl, if_pos rfl]
  | c :: r, h => by
    rw [List.cons_append, spl, if_neg (h c (by simp)), spl_cut (fun x hx => h x (List.mem_cons_of_mem _ hx))]
/-- Does a stamp not rise above what was read? -/
def noRise (acc : List St) (x : St) : Bool := match acc.getLast? with | some y => decide (x.1 ≤ y.1) | none => false
/-- What Read comes to. -/
noncomputable def goR : List St → Nat → List (List UInt8) → List St × Nat × Int
  | acc, _, [] => (acc, 0, 0)
  | acc, i, p :: ps => match partO p with | none => ([], i, 21) | some x => if noRise acc x = true then ([], i, 21) else goR (acc ++ [x]) (i + p.length + 1) ps
noncomputable def readP (s : List UInt8) : List St × Nat × Int := if s = [45] then ([], 0, 0) else goR [] 0 (spl s)
theorem stS_no {x : St} : ∀ b ∈ stS x, b ≠ 32 := by
  intro b hb
  unfold stS stT at hb
  rcases List.mem_append.1 hb with hb | hb
  · exact dec_none (by decide) b hb
  · rcases List.mem_cons.1 hb with rfl | hb
    · decide
    · exact dec_none (by decide) b hb
theorem spl_join : ∀ {l : List St}, l ≠ [] → spl (Lib.join (l.map stS) [32]) = l.map stS
  | [], h => absurd rfl h
  | [x], _ => by
    rw [List.map_cons, List.map_nil, Lib.join_one, spl_one stS_no]
  | x :: y :: r, _ => by
    have e : Lib.join ((x :: y :: r).map stS) [32] = stS x ++ 32 :: Lib.join ((y :: r).map stS) [32] := by
      rw [List.map_cons, List.map_cons, Lib.join_cons, Lib.join_cons]
      simp [Lib.joinTail]
    rw [e, spl_cut stS_no, spl_join (by simp)]
    rfl
theorem go_back {v : List St} : ∀ {l acc : List St} {i : Nat}, acc ++ l = v → Right v → U64 v → goR acc i (l.map stS) = (v, 0, 0)
  | [], acc, i, h, _, _ => by
    rw [List.append_nil] at h
    rw [List.map_nil, goR, h]
  | x :: l, acc, i, h, hr, hu => by
    have hm : x ∈ v := by rw [← h]; simp
    rw [List.map_cons, goR, partO_some (x := x) ⟨hr.1 x hm, hu x hm, rfl⟩]
    have hn : noRise acc x = false := by
      unfold noRise
      cases e : acc.getLast? with
      | none => rfl
      | some y =>
        have hy : y ∈ acc := List.mem_of_getLast? e
        have hlt : y.1 < x.1 := by
          have := hr
          rw [← h, right_append] at this
          exact this.2.2 y hy x (by simp)
        simp only
        exact decide_eq_false (by omega)
    simp only [hn]
    exact go_back (by rw [List.append_assoc]; exact h) hr hu
theorem read_text {v : List St} (hr : Right v) (hu : U64 v) : readP (vtx v) = (v, 0, 0) := by
  unfold readP vtx
  by_cases h : v = []
  · rw [if_pos h, if_pos rfl, h]
  · rw [if_neg h, if_neg (by
      intro e
      have h1 := spl_join h
      rw [e] at h1
      cases v with
      | nil => exact h rfl
      | cons x l =>
        rw [List.map_cons, show spl [45] = [[45]] from spl_one (by simp)] at h1
        have h2 := (List.cons.inj h1).1
        have : (58 : UInt8) ∈ stS x := by unfold stS stT; simp
        rw [← h2] at this
        simp at this), spl_join h]
    exact go_back (List.nil_append _) hr hu
theorem goR_len : ∀ {ps : List (List UInt8)} {acc : List St} {i : Nat}, Right acc → Right (goR acc i ps).1
  | [], acc, i, h => h
  | p :: ps, acc, i, h => by
    rw [goR]
    cases e : partO p with
    | none => exact right_nil
    | some x =>
      simp only
      split
      · exact right_nil
      · rename_i hn
        refine goR_len (right_snoc.2 ⟨h, ?_, ?_⟩)
        · unfold partO at e
          split at e
          · rename_i hx
            simp only [Option.some.injEq] at e
            rw [← e]
            exact hx.choose_spec.1
          · cases e
        · intro t ht
          have hl : ∃ y, acc.getLast? = some y := by
            cases e2 : acc.getLast? with
            | some y => exact ⟨y, rfl⟩
            | none => rw [List.getLast?_eq_none_iff] at e2; rw [e2] at ht; cases ht
          obtain ⟨y, hy⟩ := hl
          unfold noRise at hn
          rw [hy] at hn
          simp only [decide_eq_true_eq] at hn
          obtain ⟨k, hk⟩ : ∃ k, acc[k]? = some t := List.getElem?_of_mem ht
          have hkl := (List.getElem?_eq_some_iff.1 hk).1
          rw [List.getLast?_eq_getElem?] at hy
          by_cases hkk : k = acc.length - 1
          · rw [hkk, hy] at hk; cases hk; omega
          · have := right_lt h hk hy (by omega)
            omega
end Go.Proofs.YtibbbjikehkbmabDoor.Ve
namespace Go.Proofs.YtibbbjikehkbmabDoor.Ve
open Go.RowKit Go.Shelf
attribute [local go_sem] Oper.semAt_some

theorem sIndex_one (s : ByteArray) (c : UInt8) (w : World) : Calls Tryd.prog 55 #[.string s, .string ⟨#[c]⟩] w fun e w' => e = .returned (.int .i64 (Lib.indexByte s.data.toList c)) ∧ w' = w := by
  have HI := hid (fun w => Index_one s c w)
  go_enter Tryd.func55, Tryd.ntmps55
  go_wp2_with (first | (go_at_call 71; refine (HI.out _).mono ?_; rintro e w' ⟨rfl, e'⟩; have ew := e'.symm; clear e'; subst ew))
  go_ret
  exact ⟨rfl, rfl⟩
theorem splitS_any (s : ByteArray) (w : World) : Calls Tryd.prog 42 #[.string s, .string ⟨#[32]⟩, .int .i64 0] w fun e w' =>
    e = .returned (.func (.func 53) #[] #[.pointer (some ⟨w.heap.size + 1, 0, none⟩), .pointer (some ⟨w.heap.size, 0, none⟩), .pointer (some ⟨w.heap.size + 1 + 1, 0, none⟩)]) ∧
    w' = ((w.alloc (.cells #[.string s] 9)).alloc (.cells #[.string ⟨#[32]⟩] 9)).alloc (.cells #[.int .i64 0] 3) := by
  go_enter Tryd.func42, Tryd.ntmps42
  go_wp2
  go_ret
  exact ⟨rfl, rfl⟩
theorem SplitSeq_any (s : ByteArray) (w : World) : Calls Tryd.prog 29 #[.string s, .string ⟨#[32]⟩] w fun e w' =>
    e = .returned (.func (.func 53) #[] #[.pointer (some ⟨w.heap.size + 1, 0, none⟩), .pointer (some ⟨w.heap.size, 0, none⟩), .pointer (some ⟨w.heap.size + 1 + 1, 0, none⟩)]) ∧
    w' = ((w.alloc (.cells #[.string s] 9)).alloc (.cells #[.string ⟨#[32]⟩] 9)).alloc (.cells #[.int .i64 0] 3) := by
  go_enter Tryd.func29, Tryd.ntmps29
  go_wp2_with (first | (go_at_call 42; refine (splitS_any s _).mono ?_; rintro e w' ⟨rfl, e'⟩; have ew := e'.symm; clear e'; subst ew))
  go_ret
  exact ⟨rfl, rfl⟩
theorem wrap_few {k : Int} (h0 : 0 ≤ k) (h1 : k < 1000000000000000) : wrap64 k = k := by
  unfold wrap64
  rw [Int.emod_eq_of_lt (by omega) (by omega)]
  omega
theorem wrap_two {k : Nat} (h : k < 900000000000000) : wrap64 (k : Int) = (k : Int) ∧ wrap64 ((k : Int) + 1) = (k : Int) + 1 := ⟨wrap_few (by omega) (by omega), wrap_few (by omega) (by omega)⟩
/-- How long the text in a box is. -/
def boxTx (w : World) (b : Nat) : Nat := match w.cell? ⟨b, 0, none⟩ with | some (.string t) => t.size | _ => 0
theorem boxTx_of {w : World} {b : Nat} {ty : TypeId} {t : ByteArray} (h : Boxed w b ty (.string t)) : boxTx w b = t.size := by unfold boxTx; rw [h.cell]
/-- A part of a text that is not too long. -/
abbrev Px : Type := { x : List UInt8 // x.length ≤ 281474976710656 }
def pxs (pre : List Px) : List (List UInt8) := pre.map Subtype.val
theorem pxs_snoc (pre : List Px) (x : Px) : pxs (pre ++ [x]) = pxs pre ++ [x.1] := by simp [pxs]
/-- Where the iterator stands. -/
structure SplI (w0 : World) (l0 : List UInt8) (bs bp bz : Nat) (J : List Px → World → Prop) (pre : List Px) (l : List UInt8) (wr : World) : Prop where
  inv : J pre wr
  low : Below w0.heap.size w0 wr
  xs : Boxed wr bs 9 (.string (txV l))
  xp : Boxed wr bp 9 (.string ⟨#[32]⟩)
  xz : Boxed wr bz 3 (.int .i64 0)
  all : pxs pre ++ spl l = spl l0
  len : l.length ≤ 281474976710656
theorem SplI.next {w0 w3 : World} {l0 t : List UInt8} {p : Px} {bs bp bz : Nat} {S : ByteArray} {m : Nat} {J : List Px → World → Prop} {pre : List Px} (bJ : Bears (fun q => q = bs) J) (n0 : w0.heap.size ≤ bs ∧ bs ≠ bp ∧ bs ≠ bz)
    (hj : J (pre ++ [p]) w3) (low : Below w0.heap.size w0 w3) (xs : Boxed w3 bs 9 (.string S)) (xp : Boxed w3 bp 9 (.string ⟨#[32]⟩)) (xz : Boxed w3 bz 3 (.int .i64 0)) (hall : pxs pre ++ p.1 :: spl t = spl l0) (hl : t.length ≤ 281474976710656) (e : S.extract (m + 1) S.size = txV t) :
    SplI w0 l0 bs bp bz J (pre ++ [p]) t (w3.setCell ⟨bs, 0, none⟩ (.string (S.extract (m + 1) S.size))) := by
  rw [e]
  exact ⟨bJ _ _ _ hj (steps_set _ rfl), low.setCell (p := ⟨bs, 0, none⟩) n0.1 _, xs.set _, xp.other (fun q => n0.2.1 q.symm) _, xz.other (fun q => n0.2.2 q.symm) _, by rw [pxs_snoc, List.append_assoc]; exact hall, hl⟩
theorem spl_pos (l : List UInt8) : 0 < (spl l).length := by
  cases l with
  | nil => simp [spl]
  | cons c r =>
    unfold spl
    split
    · simp
    · split <;> simp

set_option maxRecDepth 100000 in
set_option maxHeartbeats 2000000 in
theorem split_stops {nn : Nat} (hn : 2 ≤ nn) {w0 w : World} {l0 : List UInt8} {bs bp bz : Nat} (hw : Below w0.heap.size w0 w) (h0 : l0.length ≤ 281474976710656)
    (xs : Boxed w bs 9 (.string (txV l0))) (xp : Boxed w bp 9 (.string ⟨#[32]⟩)) (xz : Boxed w bz 3 (.int .i64 0)) (n0 : w0.heap.size ≤ bs ∧ bs ≠ bp ∧ bs ≠ bz) :
    SeqOwn (fun q => q = bs) nn Tryd.prog 53 #[.pointer (some ⟨bp, 0, none⟩), .pointer (some ⟨bs, 0, none⟩), .pointer (some ⟨bz, 0, none⟩)] (fun x : Px => #[.string (txV x.1)]) (KIt w0.heap.size bs bp bz)
      (fun xs => pxs xs = spl l0) (fun pre => pxs pre <+: spl l0) (spl l0).length w := fun l J Jx W hW bJ bJx hY hj0 => by
  have HI0 := hid (show SplI w0 l0 bs bp bz J [] l0 W from ⟨hj0, hw.trans (hW.mono hw.size), boxed_below xs hW, boxed_below xp hW, boxed_below xz hW, rfl, h0⟩)
  have HBJ := hid bJ
  have HBX := hid bJx
  have HY := hid hY
  have hnn1 : 1 ≤ nn := by omega
  have cP := HI0.out.xp.cell
  have hd1 : 1 ≤ nn - 1 := by omega
  clear hj0 bJ bJx hY xs xp xz hW hw
  refine callsIn_of_wp Tryd.func53 rfl trivial ?_ rfl
  simp only [Tryd.ntmps53, List.size_toArray, List.length_cons, List.length_nil, Nat.reduceAdd, Nat.reduceSub, Array.replicate_succ, Array.replicate_zero, List.push_toArray, List.append_toArray, List.nil_append, List.cons_append]
  gi_wp2
  clear cP
  gi_loopw [7, 8] (fun _ _ wr => ∃ (pre : List Px) (l : List UInt8), Hid (SplI w0 l0 bs bp bz J pre l wr)) (fun _ _ wr => boxTx wr bs)
  case atStart => exact ⟨[], l0, HI0⟩
  case round =>
    obtain ⟨pre, l, HI⟩ := hrel
    have cS := HI.out.xs.cell
    have cP := HI.out.xp.cell
    have cZ := HI.out.xz.cell
    rcases split_at l 32 with hmiss | ⟨p, t, rfl, hp⟩
    · have HX := hid (fun w => sIndex_one (txV l) 32 w)
      rw [show (txV l).data.toList = l from rfl, index_miss l 32 hmiss] at HX
      have hall : pxs pre ++ [l] = spl l0 := by rw [← HI.out.all, spl_one hmiss]
      have HALL := hid (show pxs (pre ++ [(⟨l, HI.out.len⟩ : Px)]) = spl l0 by rw [pxs_snoc]; exact hall)
      have hlen : pre.length < (spl l0).length := by rw [← hall, List.length_append]; simp [pxs]
      obtain ⟨fn, tmps, assign, body, hy, hR⟩ := (HY.out pre ⟨l, HI.out.len⟩ wr HI.out.inv hlen).mono (fun e w hh => two_endsO hh)
      clear hmiss hall hlen
      gi_wp2_with (first | (refine ⟨trivial, ?_⟩; gi_at_call 55; refine (callsIn_wide.2 (HX.out _)).mono ?_; rintro e w' ⟨rfl, e'⟩; have ew := e'.symm; clear e'; subst ew))
      refine hR.mono ?_
      rintro e w3 ⟨bl, rfl, HE⟩
      rcases HE.out with ⟨rfl, hj, hkb⟩ | ⟨rfl, hjx⟩
      · gi_wp2
        go_end0
        exact ⟨⟨_, rfl⟩, .inl ⟨_, HALL.out, hj⟩⟩
      · gi_wp2
        go_end0
        exact ⟨⟨_, rfl⟩, .inr ⟨_, by rw [HALL.out]; exact List.prefix_rfl, hjx⟩⟩
    · have HX := hid (fun w => sIndex_one (txV (p ++ 32 :: t)) 32 w)
      rw [show (txV (p ++ 32 :: t)).data.toList = p ++ 32 :: t from rfl, index_hit p t 32 hp] at HX
      have hsz : (txV (p ++ 32 :: t)).size = p.length + (t.length + 1) := by rw [txV_size]; simp
      have E1 := hid (show (txV (p ++ 32 :: t)).extract 0 p.length = txV p by
        rw [Lib.extract_eq]; congr 1; simp)
      have E2 := hid (show (txV (p ++ 32 :: t)).extract (p.length + 1) (txV (p ++ 32 :: t)).size = txV t by
        rw [Lib.extract_eq, hsz]; congr 1
        have : (p ++ 32 :: t).drop (p.length + 1) = t := by rw [List.drop_append]; simp
        rw [this, List.take_of_length_le (by omega)])
      have hall : pxs pre ++ p :: spl t = spl l0 := by rw [← HI.out.all, spl_cut hp]
      have HALL := hid hall
      have hlen : pre.length < (spl l0).length := by rw [← hall, List.length_append, List.length_cons]; simp [pxs]
      have hll := HI.out.len
      rw [List.length_append, List.length_cons] at hll
      have HTL := hid (show t.length ≤ 281474976710656 from Nat.le_trans (Nat.le_trans (Nat.le_succ _) (Nat.le_add_left _ _)) hll)
      have hn9 : p.length < 900000000000000 := Nat.lt_of_le_of_lt (Nat.le_trans (Nat.le_add_right _ _) hll) (by decide)
      have hpl : p.length ≤ 281474976710656 := Nat.le_trans (Nat.le_add_right _ _) hll
      clear hll
      obtain ⟨n, hnn⟩ : ∃ n, n = p.length := ⟨_, rfl⟩
      obtain ⟨S, hS⟩ : ∃ S, S = txV (p ++ 32 :: t) := ⟨_, rfl⟩
      have HI2 := hid (show Boxed wr bs 9 (.string S) by rw [hS]; exact HI.out.xs)
      rw [← hS] at cS HX hsz E1 E2
      rw [← hnn] at HX hsz E1 E2 hn9
      have HMS := hid (show t.length < boxTx wr bs by rw [boxTx_of HI2.out, hsz]; omega)
      have c1 : (0 : Int) ≤ (n : Int) := by omega
      have c2 : (n : Int) ≤ (S.size : Int) := by omega
      have c3 : (0 : Int) ≤ (n : Int) + 1 := by omega
      have c4 : (n : Int) + 1 ≤ (S.size : Int) := by omega
      have c5 : ¬ (n : Int) < 0 := by omega
      obtain ⟨cw, cw1⟩ := wrap_two hn9
      have hYX := HY.out pre ⟨p, hpl⟩ wr HI.out.inv hlen
      dsimp only at hYX
      rw [← E1.out] at hYX
      obtain ⟨fn, tmps, assign, body, hy, hR⟩ := hYX.mono (fun e w hh => two_endsO hh)
      clear hall hlen hsz hnn hS hYX hn9
      gi_wp2_with (first | (refine ⟨trivial, ?_⟩; gi_at_call 55; refine (callsIn_wide.2 (HX.out _)).mono ?_; rintro e w' ⟨rfl, e'⟩; have ew := e'.symm; clear e'; subst ew))
      refine hR.mono ?_
      rintro e w3 ⟨bl, rfl, HE⟩
      rcases HE.out with ⟨rfl, hj, hkb⟩ | ⟨rfl, hjx⟩
      · have xs3 := hkb.2 bs (Or.inl rfl) _ _ HI2.out
        have xp3 := hkb.2 bp (Or.inr (Or.inl rfl)) _ _ HI.out.xp
        have xz3 := hkb.2 bz (Or.inr (Or.inr rfl)) _ _ HI.out.xz
        have HTN := hid (SplI.next (p := ⟨p, hpl⟩) HBJ.out n0 hj (HI.out.low.trans hkb.1) xs3 xp3 xz3 HALL.out HTL.out E2.out)
        have cS := xs3.cell
        have cP := xp3.cell
        have fS := xs3.frozen
        clear hj hkb xs3 xp3 xz3
        gi_wp2
        go_roundw
        case rel => exact ⟨_, t, HTN⟩
        case measure => rw [boxTx_of HTN.out.xs, txV_size]; exact HMS.out
      · gi_wp2
        refine bodyPost_ret (results_none rfl _ _ _) rfl ?_
        exact ⟨⟨_, rfl⟩, .inr ⟨_, ⟨spl t, by rw [pxs_snoc, List.append_assoc]; exact HALL.out⟩, hjx⟩⟩
end Go.Proofs.YtibbbjikehkbmabDoor.Ve
namespace Go.Proofs.YtibbbjikehkbmabDoor.Ve
open Go.RowKit Go.Shelf
attribute [local go_sem] Oper.semAt_some

def RdI (n0 N : Nat) (w0 : World) (B4 B5 ba bb bc : Nat) (xs : List St) (ag : Int) (W : World) : Prop :=
  (∃ v, Boxed W B4 23 v ∧ W.ownsRow n0 33 2 v xs.length (flatS xs) ∧ ∀ q, q = ba ∨ q = bb ∨ q = bc → v.ownBlock ≠ some q) ∧ Boxed W B5 3 (.int .i64 ag) ∧ Below n0 w0 W ∧ N ≤ W.heap.size
theorem rdI_own {α : Type} {n0 N B B4 B5 ba bb bc : Nat} {w0 : World} (hn : n0 ≤ w0.heap.size) (hB : n0 ≤ B) (f : List α → List St) (g : List α → Int) : OwnFrom B (fun s W => RdI n0 N w0 B4 B5 ba bb bc (f s) (g s) W) :=
  OwnFrom.and (Own.from (holdsRow_own n0 B4 23 33 2 (fun s => (f s).length) (fun s => flatS (f s)) (fun _ v => ∀ q, q = ba ∨ q = bb ∨ q = bc → v.ownBlock ≠ some q)) _)
    (OwnFrom.and (Own.from (boxed_own B5 3 (fun s => .int .i64 (g s))) _) (OwnFrom.and (ownFrom_below hn hB) (fun _ _ _ _ hs hg _ => Nat.le_trans hs hg.size)))
theorem rdI_bears {α : Type} {n0 N B4 B5 ba bb bc : Nat} {w0 : World} (hn : n0 ≤ w0.heap.size) (ha : n0 ≤ ba) (hb : n0 ≤ bb) (h4 : B4 ≠ ba ∧ B4 ≠ bb) (h5 : B5 ≠ ba ∧ B5 ≠ bb) (f : List α → List St) (g : List α → Int) : Bears (fun q => q = ba ∨ q = bb) (fun s W => RdI n0 N w0 B4 B5 ba bb bc (f s) (g s) W) := by
  rintro s A B ⟨⟨v, hv, hr, hG⟩, hv5, hlow, hz⟩ st
  obtain ⟨r, hg, hr'⟩ := id st
  refine ⟨⟨v, bears_boxed (own := fun q => q = ba ∨ q = bb) (fun _ : List α => v) (by omega) s A B hv st, row_kept hr hg (fun q hq => hG q (by rcases hr' q hq with e | e <;> simp [e])), hG⟩, bears_boxed (own := fun q => q = ba ∨ q = bb) (fun s : List α => .int .i64 (g s)) (by omega) s A B hv5 st, bears_below ha hb hn s A B hlow st, Nat.le_trans hz hg.size⟩
/-- One stamp more. -/
theorem rd_app {n0 N B4 B5 ba bb bc : Nat} {w0 W : World} {xs : List St} {ag : Int} (h : RdI n0 N w0 B4 B5 ba bb bc xs ag W) (hn : n0 ≤ w0.heap.size) (h45 : B4 ≠ B5) (h4 : n0 ≤ B4) (hb4 : ∀ q, q = ba ∨ q = bb ∨ q = bc → q ≠ B4 ∧ q < N) (hlen : xs.length ≤ 600) (NB : Nat) :
    ∃ a n c, W.cell? ⟨B4, 0, none⟩ = some (.slice a n c) ∧ (∀ o, (W.alloc o).cell? ⟨B4, 0, none⟩ = some (.slice a n c)) ∧ ∀ s : St, ∃ a' c' w2, (appV #[23, 23] 23 #[.slice a n c, .slice (some ⟨W.heap.size, 0, none⟩) 1 1]).run Tryd.prog (W.alloc (.cells #[.int .i64 s.1, .int .u64 (s.2 : Int)] 33)) = .ok (.slice a' (n + 1) c') w2 ∧
      w2.cell? ⟨B4, 0, none⟩ = some (.slice a n c) ∧ w2.frozen? ⟨B4, 0, none⟩ = false ∧ Hid (RdI n0 N w0 B4 B5 ba bb bc (xs ++ [s]) ag (w2.setCell ⟨B4, 0, none⟩ (.slice a' (n + 1) c'))) ∧ Hid (KeepsFrom NB W (w2.setCell ⟨B4, 0, none⟩ (.slice a' (n + 1) c'))) ∧ Hid (KIt n0 ba bb bc W (w2.setCell ⟨B4, 0, none⟩ (.slice a' (n + 1) c'))) ∧ Hid (∀ b ty u, b ≠ B4 → ty ≠ 33 → Boxed W b ty u → Boxed (w2.setCell ⟨B4, 0, none⟩ (.slice a' (n + 1) c')) b ty u) := by
  obtain ⟨⟨v, hv, hr, hG⟩, hv5, hlow, hz⟩ := h
  obtain ⟨a, c, rfl⟩ := OwnS.form hr
  have hb : Below W.heap.size W W := Below.refl _ _
  refine ⟨a, xs.length, c, hv.cell, fun o => (Boxed.alloc (show Boxed W B4 _ _ from hv) o).cell, fun s => ?_⟩
  obtain ⟨o, ho⟩ : ∃ o, o = Obj.cells #[.int .i64 s.1, .int .u64 (s.2 : Int)] 33 := ⟨_, rfl⟩
  have hX : Below W.heap.size W (W.alloc o) := hb.alloc (Nat.le_refl _) _
  have hnew : (W.alloc o).heap[W.heap.size]? = some o := by rw [ho]; exact new_0 W _
  have hrX := own_keptS hr (hX.mono (Nat.le_refl _))
  obtain ⟨i0, hi, hz0, hz1, hz2⟩ := info_parts info_stamp
  rw [← ho]
  obtain ⟨v', w2, hrun, hown, hgr, _, hob⟩ := run_append_own_at (P := Tryd.prog) (W.alloc o) n0 23 23 33 i0 (.agg #[.int .i64 0, .int .u64 0]) 2 16 Tryd.underlying23 hi hz0 hz1 hz2 rfl (by decide) (.slice a xs.length c) xs.length (flatS xs) hrX ⟨W.heap.size, 0, none⟩ 1 1 [.int .i64 s.1, .int .u64 (s.2 : Int)] rfl (World.news_of_block (by rw [hnew, ho])) (by simp [Value.oneCell']) (by unfold maxLen; omega) (by omega) (by have := hlow.size; simp; omega)
  subst ho
  obtain ⟨hO2, hL2, a', c', rfl⟩ := OwnS.next (n := xs.length + 1) (B := n0) (W := W) (s := s) hlow (by have := hlow.size; simp; omega) (show OwnS W n0 _ xs from own_keptS hr hb) rfl hown hgr
  have hvX := Boxed.alloc (show Boxed W B4 _ _ from hv) (.cells #[.int .i64 s.1, .int .u64 (s.2 : Int)] 33)
  have hv2 := hvX.kept hgr (hvX.not_row (by decide) hrX)
  have h5X := Boxed.alloc (show Boxed W B5 _ _ from hv5) (.cells #[.int .i64 s.1, .int .u64 (s.2 : Int)] 33)
  have h52 := h5X.kept hgr (h5X.not_row (by decide) hrX)
  have hne : (Value.slice a' (xs.length + 1) c').ownBlock ≠ some B4 := fun e => by
    obtain ⟨_, cs, hc⟩ := own_block hown e
    rw [show w2.heap[B4]? = _ from hv2] at hc
    cases hc
  have hB : Below n0 W (w2.setCell ⟨B4, 0, none⟩ (.slice a' (xs.length + 1) c')) := by
    have h1 : Below n0 W W := Below.refl _ W
    have h2 := (h1.alloc (by have := hlow.size; simp; omega) (.cells #[.int .i64 s.1, .int .u64 (s.2 : Int)] 33)).grown hgr (by have := hlow.size; simp; omega) (fun q hq => (own_block hrX hq).1)
    exact h2.setCell (p := ⟨B4, 0, none⟩) h4 _
  refine ⟨a', c', w2, hrun, hv2.cell, hv2.frozen, ⟨⟨_, hv2.set _, ?_, ?_⟩, h52.other (fun e => h45 e.symm) _, hL2.setCell (p := ⟨B4, 0, none⟩) h4 _, ?_⟩, ?_, ?_, fun b ty u hbn hty hbx => ((Boxed.alloc (show Boxed W b _ _ from hbx) (.cells #[.int .i64 s.1, .int .u64 (s.2 : Int)] 33)).kept hgr ((Boxed.alloc (show Boxed W b _ _ from hbx) (.cells #[.int .i64 s.1, .int .u64 (s.2 : Int)] 33)).not_row hty hrX)).other hbn _⟩
  · rw [List.length_append, flatS_append]
    exact row_kept hown (grownBy_setCell' w2 B4 _) (fun q hq => by cases hq; exact hne)
  · intro q hq e
    rcases hob with hob | hob
    · exact hG q hq (hob.symm.trans e)
    · rw [hob] at e
      injection e with e
      have := (hb4 q hq).2
      simp at e
      omega
  · have := hgr.size
    simp at this ⊢
    omega
  · refine KeepsOthers.from ?_ _
    refine ((KeepsOthers.of_grownBy (grown_of_below none hX) (fun j o ej _ => by cases ej)).trans (KeepsOthers.of_grownBy hgr (fun j o ej hj => ?_))).trans (KeepsOthers.setCell _ _ _)
    obtain ⟨_, cs, hc⟩ := own_block hrX ej
    rw [hc] at hj
    cases hj
    rfl
  · refine ⟨hB, fun q hq ty u hu => ?_⟩
    have hu1 := Boxed.alloc (show Boxed W q _ _ from hu) (.cells #[.int .i64 s.1, .int .u64 (s.2 : Int)] 33)
    exact (hu1.kept hgr (fun e => hG q hq e.symm)).other (hb4 q hq).1 _
/-- Whether all agree, anew. -/
theorem rd_fin {n0 N B4 B5 ba bb bc NB nq : Nat} {w0 W W3 : World} {xs : List St} {ag : Int} (h : RdI n0 N w0 B4 B5 ba bb bc xs ag W3) (hK : KeepsFrom NB W W3) (hT : KIt n0 ba bb bc W W3) (h45 : B4 ≠ B5) (h5 : n0 ≤ B5) (hb5 : ∀ q, q = ba ∨ q = bb ∨ q = bc → q ≠ B5) (ag' : Int) :
    KeepsFrom NB W ((W3.drewN nq).setCell ⟨B5, 0, none⟩ (.int .i64 ag')) ∧ KIt n0 ba bb bc W ((W3.drewN nq).setCell ⟨B5, 0, none⟩ (.int .i64 ag')) ∧ RdI n0 N w0 B4 B5 ba bb bc xs ag' ((W3.drewN nq).setCell ⟨B5, 0, none⟩ (.int .i64 ag')) := by
  obtain ⟨⟨v, hv, hr, hG⟩, hv5, hlow, hz⟩ := h
  have hd : Below W3.heap.size W3 (W3.drewN nq) := below_drewN (Below.refl _ _)
  have hne : v.ownBlock ≠ some B5 := fun e => by
    obtain ⟨_, cs, hc⟩ := own_block hr e
    rw [show W3.heap[B5]? = _ from hv5] at hc
    cases hc
  refine ⟨hK.trans (KeepsOthers.from ((KeepsOthers.of_grownBy (grown_of_below none hd) (fun j o ej _ => by cases ej)).trans (KeepsOthers.setCell _ _ _)) _), ⟨hT.1.trans ((below_drewN (Below.refl _ _)).setCell (p := ⟨B5, 0, none⟩) h5 _), fun q hq ty u hu => ?_⟩, ⟨v, (show Boxed (W3.drewN nq) B4 _ _ from hv).other h45 _, row_kept (own_keptS hr hd) (grownBy_setCell' _ B5 _) (fun q hq => by cases hq; exact hne), hG⟩, (show Boxed (W3.drewN nq) B5 _ _ from hv5).set _, (below_drewN hlow).setCell (p := ⟨B5, 0, none⟩) h5 _, ?_⟩
  · exact (show Boxed (W3.drewN nq) q ty u from hT.2 q hq ty u hu).other (hb5 q hq) _
  · simp
    exact hz
theorem rdI_drewN {n0 N B4 B5 ba bb bc : Nat} {w0 W : World} {xs : List St} {ag : Int} (h : RdI n0 N w0 B4 B5 ba bb bc xs ag W) (nq : Nat) : RdI n0 N w0 B4 B5 ba bb bc xs ag (W.drewN nq) := by
  obtain ⟨⟨v, hv, hr, hG⟩, hv5, hlow, hz⟩ := h
  exact ⟨⟨v, hv, own_keptS hr (below_drewN (Below.refl _ _)), hG⟩, hv5, below_drewN hlow, hz⟩
end Go.Proofs.YtibbbjikehkbmabDoor.Ve
