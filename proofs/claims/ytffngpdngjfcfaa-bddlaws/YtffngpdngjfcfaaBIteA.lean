/-
  ite: whatever it is handed.
-/
import Derived.Test.YtffngpdngjfcfaaBIte
namespace Go.Proofs.Ytffngpdngjfcfaa
open Go.RowKit Go.Maps
open Bd (Nd)

theorem iteF_one (f g : Bd.Fn) : Bd.iteF Bd.tt f g = f := by funext h; rfl
theorem iteF_zero (f g : Bd.Fn) : Bd.iteF Bd.ff f g = g := by funext h; rfl
theorem iteF_same (f g : Bd.Fn) : Bd.iteF f g g = g := by funext h; unfold Bd.iteF; split <;> rfl
theorem iteF_self (f : Bd.Fn) : Bd.iteF f Bd.tt Bd.ff = f := by
  funext h
  unfold Bd.iteF Bd.tt Bd.ff
  cases f h <;> rfl

theorem ite_all : ∀ n, iteSpec n := by
  intro n
  induction n with
  | zero =>
    intro M s A w y sb room kb sz kf a b c kk hT hW hS hns hnk hroom hr3 hbM hM hK ha hb hc hka hkb hkc hF hn
    have hb128 : 128 ≤ Bd.bitOf s.L a := by omega
    have ha2 : a < 2 := by
      rcases Nat.lt_or_ge a 2 with h | h
      · exact h
      · have := Bd.bitOf_lt hT.okay h ha
        have := hT.okay.few
        omega
    by_cases h1 : a = 1
    · subst h1
      refine (ite_one w _ b c).mono ?_
      rintro e w' ⟨rfl, hbw⟩
      exact ⟨b, rfl, IteGot.same hT hW hM hK hb (by rw [Bd.den_one, iteF_one]) hbw⟩
    · have h0 : a = 0 := by omega
      subst h0
      by_cases hbc : b = c
      · subst hbc
        refine (ite_same w _ 0 b h1).mono ?_
        rintro e w' ⟨rfl, hbw⟩
        exact ⟨b, rfl, IteGot.same hT hW hM hK hb (by rw [iteF_same]) hbw⟩
      · refine (ite_zero w _ b c hbc).mono ?_
        rintro e w' ⟨rfl, hbw⟩
        exact ⟨c, rfl, IteGot.same hT hW hM hK hc (by rw [Bd.den_zero, iteF_zero]) hbw⟩
  | succ n ih =>
    intro M s A w y sb room kb sz kf a b c kk hT hW hS hns hnk hroom hr3 hbM hM hK ha hb hc hka hkb hkc hF hn
    by_cases h1 : a = 1
    · subst h1
      refine (ite_one w _ b c).mono ?_
      rintro e w' ⟨rfl, hbw⟩
      exact ⟨b, rfl, IteGot.same hT hW hM hK hb (by rw [Bd.den_one, iteF_one]) hbw⟩
    · by_cases hbc : b = c
      · subst hbc
        refine (ite_same w _ a b h1).mono ?_
        rintro e w' ⟨rfl, hbw⟩
        exact ⟨b, rfl, IteGot.same hT hW hM hK hb (by rw [iteF_same]) hbw⟩
      · by_cases h0 : a = 0
        · subst h0
          refine (ite_zero w _ b c hbc).mono ?_
          rintro e w' ⟨rfl, hbw⟩
          exact ⟨c, rfl, IteGot.same hT hW hM hK hc (by rw [Bd.den_zero, iteF_zero]) hbw⟩
        · by_cases hq : b = 1 ∧ c = 0
          · obtain ⟨rfl, rfl⟩ := hq
            refine (ite_self w _ a h1 h0).mono ?_
            rintro e w' ⟨rfl, hbw⟩
            exact ⟨a, rfl, IteGot.same hT hW hM hK ha (by rw [Bd.den_one, Bd.den_zero, iteF_self]) hbw⟩
          · cases hv : kf (arV a b c) with
            | some v => exact ite_hit A hT hW sb room kb hS sz kf hM hK a b c ha hb hc (by omega) hbc hq v hv
            | none => exact ite_miss ih A hT hW sb room kb hS hns hnk hroom hr3 hbM sz kf hM hK a b c kk ha hb hc hka hkb hkc hF hn (by omega) hbc hq hv
end Go.Proofs.Ytffngpdngjfcfaa
