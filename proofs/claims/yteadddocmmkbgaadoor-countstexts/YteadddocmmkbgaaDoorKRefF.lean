/-
  Counts: the document's Begins.
-/
import Derived.Test.YteadddocmmkbgaaDoorKRefE
namespace Go.Proofs.YteadddocmmkbgaaDoor.Co
open Go.RowKit Go.Shelf

/-- Is there a Text that begins so? -/
def BegB (t : Nat) (s : List UInt8) : Bool := if s = [] then true else if s.head? = some 123 then begB t s.length none s.tail else false
set_option maxRecDepth 100000 in
set_option maxHeartbeats 2000000 in
theorem Begins_any {t : Nat} (ht : t ≤ 62) (s : List UInt8) {w : World} (hP : PowTab w) :
    Calls Tryd.prog 46 #[.int .i64 (t : Int), .string (tx s)] w fun e w' => e = .returned (.bool (BegB t s)) ∧ Below w.heap.size w w' := by
  by_cases h0 : s = []
  · subst h0
    go_enter Tryd.func46, Tryd.ntmps46
    go_wp2
    go_ret
    exact ⟨rfl, Below.refl _ _⟩
  · obtain ⟨a, r, rfl⟩ := List.exists_cons_of_ne_nil h0
    have hE1 : (tx (a :: r)).extract 1 (r.length + 1) = tx r := extract_drop (a :: r) 1
    have HE1 := hid hE1
    have HR := hid (show BegB t (a :: r) = if a = 123 then begB t (r.length + 1) none r else false by
      unfold BegB
      rw [if_neg h0]
      by_cases ha : a = 123
      · rw [if_pos ha, if_pos (by rw [ha]; rfl)]; rfl
      · rw [if_neg ha, if_neg (by simpa using ha)])
    have HB := hid (begins_any ht hP (r.length + 1) r none w (by omega) (fun l h => by cases h) (Below.refl _ _))
    clear hE1 h0
    go_enter Tryd.func46, Tryd.ntmps46
    go_wp2_with fail
    · rename_i hx _ _
      have ha : a = 123 := by
        have hx' : (a.toNat : Int) = 123 := hx
        exact UInt8.toNat_inj.1 (by show a.toNat = 123; omega)
      rw [HE1.out]
      refine HB.out.mono ?_
      rintro e w2 ⟨rfl, hb2⟩
      have HA := hid ha
      clear hx ha
      obtain ⟨bb, hbb⟩ : ∃ bb, bb = begB t (r.length + 1) none r := ⟨_, rfl⟩
      rw [← hbb] at HR ⊢
      clear hbb
      go_wp2_with fail
      go_ret
      exact ⟨by rw [HR.out, if_pos HA.out]; rfl, hb2⟩
    · rename_i hx
      have ha : ¬ a = 123 := fun h => by subst h; exact hx rfl
      go_ret
      exact ⟨by rw [HR.out, if_neg ha]; rfl, Below.refl _ _⟩
end Go.Proofs.YteadddocmmkbgaaDoor.Co
