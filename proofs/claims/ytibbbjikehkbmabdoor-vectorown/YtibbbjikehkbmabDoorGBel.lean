/-
  Below: the program's.
-/
import Derived.Test.YtibbbjikehkbmabDoorGTog
import Derived.Test.YtibbbjikehkbmabDoorGQuiet
import Derived.Test.YtibbbjikehkbmabDoorGStep
import Derived.Test.YtibbbjikehkbmabDoorGChk
namespace Go.Proofs.YtibbbjikehkbmabDoor.Ve
open Go.RowKit Go.Shelf
attribute [local go_sem] Oper.semAt_some

/-- What Below comes to. -/
def belP (a b : List St) : Bool × Int := if chkN [a, b] = 0 then ((stepsV a b).all belB, 0) else (false, chkN [a, b])
theorem right_two {a b : List St} (h : chkN [a, b] = 0) : Right a ∧ Right b := by
  unfold chkN at h
  by_cases q : ∀ v ∈ [a, b], Right v
  · exact ⟨q a (by simp), q b (by simp)⟩
  · rw [if_neg q] at h; cases h
theorem chkN_two (l : List (List St)) : chkN l = 0 ∨ chkN l = 160 := by
  unfold chkN
  split
  · exact Or.inl rfl
  · exact Or.inr rfl
theorem vec_none {w : World} {v : Value} (h : VecV w v (Option.none (α := St)).toList) : ∃ a c, v = .slice a 0 c := by
  obtain ⟨a, c, e, _⟩ := h
  exact ⟨a, c, e⟩
theorem vec_one {w W : World} {v : Value} {s : St} (h : VecV w v (some s).toList) (hb : Below w.heap.size w W) : ∃ g o c, v = .slice (some ⟨g, o, none⟩) 1 c ∧ W.cell? ⟨g, o, none⟩ = some (.int .i64 s.1) ∧ W.cell? ⟨g, o + 1, none⟩ = some (.int .u64 (s.2 : Int)) := by
  obtain ⟨a, c, e, _, _, h⟩ := h.below hb
  rcases h with h | ⟨g, o, ea, _, hc⟩
  · cases h
  · subst ea
    have := hc 0 s rfl
    rw [Nat.zero_mul, Nat.add_zero] at this
    exact ⟨g, o, c, e, this.1, this.2⟩
theorem KIt.refl (n0 ba bb bc : Nat) (A : World) : KIt n0 ba bb bc A A := ⟨Below.refl _ _, fun _ _ _ _ h => h⟩
end Go.Proofs.YtibbbjikehkbmabDoor.Ve
