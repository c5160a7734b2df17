/-
  strings.Cut at a separator of one byte, strings.TrimLeft of blanks, strings.Clone.
-/
import Derived.Test.YtalmcdhohoplpaaDoorWIs
import Derived.Lib.Bytealg
import Derived.Lib.IndexAny
import Derived.Lib.UnsafeStr
import Derived.Laws.IdiomCopy
namespace Go.Proofs.YtalmcdhohoplpaaDoor
open Go.RowKit

theorem run_indexByte (s : ByteArray) (c : Int) (w : World) : (callFunc 64 #[.string s, .int .u8 c]).run Tryd.prog w = .ok (.value (.int .i64 (Lib.indexByte s.data.toList c.toNat.toUInt8))) w := by
  rw [run_callFunc_extern Tryd.func64 (by kernel_rfl) (by kernel_rfl) (by kernel_rfl) (e := Extern.BytealgIndexByte.indexByte) (by kernel_rfl), Lib.run_indexByteString]
  rfl

set_option maxHeartbeats 400000 in
theorem Index_one (s : ByteArray) (c : UInt8) (w : World) :
    Calls Tryd.prog 51 #[.string s, .string ⟨#[c]⟩] w fun e w' => e = .returned (.int .i64 (Lib.indexByte s.data.toList c)) ∧ w' = w := by
  have hx : ∀ w : World, (callFunc 64 #[.string s, .int .u8 (((⟨#[c]⟩ : ByteArray)[0]'(by show 0 < 1; omega)).toNat : Int)]).run Tryd.prog w = .ok (.value (.int .i64 (Lib.indexByte s.data.toList c))) w := fun w => by
    have := run_indexByte s (c.toNat : Int) w
    have e : ((c.toNat : Int)).toNat.toUInt8 = c := by simp
    rw [e] at this
    exact this
  by_cases he : [c] = s.toList
  · have hb : ([c] == s.toList) = true := by rw [← he]; simp
    have HD := hid (show Lib.indexByte s.data.toList c = 0 by
      rw [← Lib.toList_data, ← he]; simp [Lib.indexByte])
    clear he
    go_enter Tryd.func51, Tryd.ntmps51
    go_wp2
    go_ret
    exact ⟨ret_int HD.out.symm, rfl⟩
  · have hb : ([c] == s.toList) = false := beq_eq_false_iff_ne.2 he
    clear he
    go_enter Tryd.func51, Tryd.ntmps51
    go_wp2
    go_ret
    exact ⟨rfl, rfl⟩

theorem index_hit (p t : List UInt8) (c : UInt8) (h : ∀ x ∈ p, x ≠ c) : Lib.indexByte (p ++ c :: t) c = (p.length : Int) := by
  induction p with
  | nil => simp [Lib.indexByte]
  | cons a p ih =>
    have e := ih (fun x hx => h x (List.mem_cons_of_mem _ hx))
    have ha : (a == c) = false := beq_eq_false_iff_ne.2 (h a (by simp))
    show Lib.indexByte (a :: (p ++ c :: t)) c = _
    unfold Lib.indexByte
    rw [ha, e]
    have : ((p.length : Int) == -1) = false := by rw [beq_eq_false_iff_ne]; omega
    rw [this]; simp
theorem index_miss (l : List UInt8) (c : UInt8) (h : ∀ x ∈ l, x ≠ c) : Lib.indexByte l c = -1 := by
  induction l with
  | nil => rfl
  | cons a p ih =>
    have e := ih (fun x hx => h x (List.mem_cons_of_mem _ hx))
    have ha : (a == c) = false := beq_eq_false_iff_ne.2 (h a (by simp))
    unfold Lib.indexByte
    rw [ha, e]; rfl
theorem split_at (l : List UInt8) (c : UInt8) : (∀ x ∈ l, x ≠ c) ∨ ∃ p t, l = p ++ c :: t ∧ ∀ x ∈ p, x ≠ c := by
  induction l with
  | nil => left; simp
  | cons a l ih =>
    by_cases h : a = c
    · right; exact ⟨[], l, by rw [h]; rfl, by simp⟩
    · rcases ih with ih | ⟨p, t, rfl, hp⟩
      · left; intro x hx; rcases List.mem_cons.1 hx with rfl | hx
        · exact h
        · exact ih x hx
      · right; refine ⟨a :: p, t, rfl, ?_⟩
        intro x hx; rcases List.mem_cons.1 hx with rfl | hx
        · exact h
        · exact hp x hx

/-- A text by its bytes. -/
abbrev tx (l : List UInt8) : ByteArray := ⟨l.toArray⟩
theorem tx_eq (s : ByteArray) : s = tx s.data.toList := rfl
theorem tx_size (l : List UInt8) : (tx l).size = l.length := by rw [Lib.size_eq]

set_option maxHeartbeats 400000 in
theorem cut_miss (l : List UInt8) (c : UInt8) (w : World) (h : ∀ x ∈ l, x ≠ c) :
    Calls Tryd.prog 45 #[.string (tx l), .string ⟨#[c]⟩] w fun e w' => e = .returned (.tuple #[.string (tx l), .string (tx []), .bool false]) ∧ ∃ n, w' = w.drewN n := by
  have q := fun w => Index_one (tx l) c w
  rw [show (tx l).data.toList = l from rfl, index_miss l c h] at q
  clear h
  go_enter Tryd.func45, Tryd.ntmps45
  go_wp2_with (go_at_call 51; refine (q _).mono ?_; rintro e w' ⟨rfl, rfl⟩)
  go_ret3
  exact ⟨rfl, 0, rfl⟩

set_option maxHeartbeats 400000 in
theorem cut_hit (p t : List UInt8) (c : UInt8) (w : World) (h : ∀ x ∈ p, x ≠ c) (hs : p.length + t.length + 1 ≤ maxLen) :
    Calls Tryd.prog 45 #[.string (tx (p ++ c :: t)), .string ⟨#[c]⟩] w fun e w' => e = .returned (.tuple #[.string (tx p), .string (tx t), .bool true]) ∧ ∃ n, w' = w.drewN n := by
  have q := fun w => Index_one (tx (p ++ c :: t)) c w
  rw [show (tx (p ++ c :: t)).data.toList = p ++ c :: t from rfl, index_hit p t c h] at q
  clear h
  unfold maxLen at hs
  have hsz : (tx (p ++ c :: t)).size = p.length + (t.length + 1) := by rw [tx_size]; simp
  have E1 := hid (show (tx (p ++ c :: t)).extract 0 p.length = tx p by
    rw [Lib.extract_eq]; congr 1; simp)
  have E2 := hid (show (tx (p ++ c :: t)).extract (p.length + 1) (tx (p ++ c :: t)).size = tx t by
    rw [Lib.extract_eq, hsz]; congr 1
    have : (p ++ c :: t).drop (p.length + 1) = t := by rw [List.drop_append]; simp
    rw [this, List.take_of_length_le (by omega)])
  obtain ⟨s, hsd⟩ : ∃ s, s = tx (p ++ c :: t) := ⟨_, rfl⟩
  rw [← hsd] at q E1 E2 hsz ⊢
  have HS := hid hsd
  clear hsd
  have HZ := hid hsz
  have hc1 : ((⟨#[c]⟩ : ByteArray).size : Int) = 1 := rfl
  have c1 : (0 : Int) ≤ (p.length : Int) := by omega
  have c2 : (p.length : Int) ≤ (s.size : Int) := by omega
  have c3 : (0 : Int) ≤ (p.length : Int) + 1 := by omega
  have c4 : (p.length : Int) + 1 ≤ (s.size : Int) := by omega
  clear hsz
  go_enter Tryd.func45, Tryd.ntmps45
  go_wp2_with (go_at_call 51; refine (q _).mono ?_; rintro e w' ⟨rfl, rfl⟩)
  go_quiet (fail)
  go_wp2
  go_ret3
  refine ⟨?_, _, rfl⟩
  rw [← E1.out, ← E2.out]
  rfl

set_option maxHeartbeats 400000 in
theorem Cut_miss (l : List UInt8) (c : UInt8) (w : World) (h : ∀ x ∈ l, x ≠ c) :
    Calls Tryd.prog 38 #[.string (tx l), .string ⟨#[c]⟩] w fun e w' => e = .returned (.tuple #[.string (tx l), .string (tx []), .bool false]) ∧ ∃ n, w' = w.drewN n := by
  have H := hid h
  clear h
  go_enter Tryd.func38, Tryd.ntmps38
  go_wp2_with (go_at_call 45; refine (cut_miss l c _ H.out).mono ?_; rintro e w' ⟨rfl, n, rfl⟩)
  go_ret3
  exact ⟨rfl, n, rfl⟩

set_option maxHeartbeats 400000 in
theorem Cut_hit (p t : List UInt8) (c : UInt8) (w : World) (h : ∀ x ∈ p, x ≠ c) (hs : p.length + t.length + 1 ≤ maxLen) :
    Calls Tryd.prog 38 #[.string (tx (p ++ c :: t)), .string ⟨#[c]⟩] w fun e w' => e = .returned (.tuple #[.string (tx p), .string (tx t), .bool true]) ∧ ∃ n, w' = w.drewN n := by
  have H := hid h
  clear h
  have q := fun w => cut_hit p t c w H.out hs
  obtain ⟨s, hsd⟩ : ∃ s, s = tx (p ++ c :: t) := ⟨_, rfl⟩
  rw [← hsd] at q ⊢
  clear hsd
  go_enter Tryd.func38, Tryd.ntmps38
  go_wp2_with (go_at_call 45; refine (q _).mono ?_; rintro e w' ⟨rfl, n, rfl⟩)
  go_ret3
  exact ⟨rfl, n, rfl⟩
end Go.Proofs.YtalmcdhohoplpaaDoor
