/-
  A slice of texts that came in, as the contracts ask for it.
-/
import Derived.Test.YtfgdikhpabapkaaLAll
import Derived.SliceStrings
namespace Go.Proofs.Ytfgdikhpabapkaa
open Go.RowKit

/-- The texts of a slice, up to k, as lists of bytes. -/
def tak (ss : List ByteArray) (k : Nat) : List (List UInt8) := (ss.take k).map fun s => s.data.toList
theorem tak_length {ss : List ByteArray} {k : Nat} (h : k ≤ ss.length) : (tak ss k).length = k := by simp [tak]; omega
theorem tak_at {ss : List ByteArray} {k i : Nat} (hk : k ≤ ss.length) (hi : i < k) : (tak ss k)[i]'(by rw [tak_length hk]; exact hi) = (ss.getD i ByteArray.empty).data.toList := by
  have hi' : i < ss.length := by omega
  simp [tak, List.getD_eq_getElem?_getD, List.getElem?_eq_getElem hi']

theorem addr_add (g o i : Nat) : (⟨g, o, none⟩ : Addr).add i = ⟨g, o + i, none⟩ := by
  unfold Addr.add; split <;> simp_all

theorem addr_of {w : World} {a : Addr} {v : Value} (h : w.cell? (a.add 0) = some v) : (∃ g o, a = ⟨g, o, none⟩) ∧ a.block < w.heap.size := by
  have e : a.add 0 = a := by unfold Addr.add; simp
  rw [e] at h
  obtain ⟨g, o, sp⟩ := a
  have hlt : g < w.heap.size := by
    unfold World.cell? at h
    cases hh : w.heap[g]? with
    | none => simp [hh] at h
    | some x => exact lt_of_block hh
  refine ⟨?_, hlt⟩
  cases sp with
  | none => exact ⟨g, o, rfl⟩
  | some s =>
    exfalso
    unfold World.cell? at h
    simp only [Option.isSome_some, if_true] at h
    split at h <;> cases h

theorem view_row {w : World} {a : Addr} {ss : List ByteArray} {k cap : Nat} (hk : k ≤ ss.length) (hc : ∀ i, i < ss.length → w.cell? (a.add i) = some (.string (ss.getD i ByteArray.empty))) : Row w (.slice (some a) k cap) (tak ss k) := by
  refine ⟨some a, cap, by rw [tak_length hk], ?_⟩
  by_cases h0 : k = 0
  · subst h0; exact Or.inl rfl
  · obtain ⟨⟨g, o, rfl⟩, hb⟩ := addr_of (hc 0 (by omega))
    refine Or.inr ⟨g, o, rfl, hb, fun i hi => ?_⟩
    rw [tak_length hk] at hi
    have := hc i (by omega)
    rw [addr_add] at this
    rw [this, tak_at hk hi, sv_data]
theorem view_src {w : World} {a : Addr} {ss : List ByteArray} {k cap : Nat} (hk : k ≤ ss.length) (hc : ∀ i, i < ss.length → w.cell? (a.add i) = some (.string (ss.getD i ByteArray.empty))) : Src w (.slice (some a) k cap) (tak ss k) := by
  refine Or.inr ⟨a, cap, by rw [tak_length hk], fun j u hj => ?_⟩
  have hjk : j < k := by
    obtain ⟨h, _⟩ := List.getElem?_eq_some_iff.1 hj
    simp [svs, tak_length hk] at h
    exact h
  refine ⟨(addr_of (hc 0 (by omega))).2, ?_⟩
  rw [hc j (by omega), ← hj, sv_data]
  have : (svs (tak ss k))[j]? = some (sv ((tak ss k)[j]'(by rw [tak_length hk]; exact hjk))) := by
    simp [svs, List.getElem?_eq_getElem (show j < (tak ss k).length by rw [tak_length hk]; exact hjk)]
  rw [this, tak_at hk hjk]

/-- What is known of a slice of texts that came in. -/
def Came (w : World) (a0 : Option Addr) (len cap : Nat) (ss : List ByteArray) : Prop :=
  (a0 = none ∧ len = 0 ∧ cap = 0 ∧ ss = []) ∨ ∃ a, a0 = some a ∧ len ≤ cap ∧ cap ≤ maxLen ∧ ss.length = cap ∧ (∀ i, i < ss.length → w.cell? (a.add i) = some (.string (ss.getD i ByteArray.empty))) ∧ ∀ s ∈ ss, s.size ≤ maxLen

theorem all_any (c h : ByteArray) (a0 : Option Addr) (len cap : Nat) (ss : List ByteArray) (w : World) (hv : Came w a0 len cap ss) :
    Calls Try.prog 8 #[.string c, .slice a0 len cap, .string h] w fun e w' => e = .returned (.bool true) ∧ Below w.heap.size w w' := by
  rcases hv with ⟨rfl, rfl, rfl, rfl⟩ | ⟨a, rfl, hl, hm, hz, hc, _⟩
  · exact all_few c h none 0 0 [] w (by omega) (Or.inl ⟨rfl, rfl⟩) (Row.nil _) (by simp)
  · by_cases h8 : len ≤ 8
    · exact all_few c h (some a) len cap (tak ss len) w h8 (view_src (by omega) hc) (view_row (by omega) hc) (by rw [tak_length (by omega)]; exact h8)
    · obtain ⟨⟨g, o, rfl⟩, _⟩ := addr_of (hc 0 (by omega))
      exact all_many c h g o len cap (tak ss 8) w (by omega) hl (Nat.le_trans hl hm) (view_src (by omega) hc) (view_row (by omega) hc) (by rw [tak_length (by omega)]; exact Nat.le_refl _)
end Go.Proofs.Ytfgdikhpabapkaa
