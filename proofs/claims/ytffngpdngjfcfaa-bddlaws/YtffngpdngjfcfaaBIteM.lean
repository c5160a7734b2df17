/-
  ite: what is known of three numbers; how many can be known.
-/
import Derived.Test.YtffngpdngjfcfaaBNode
namespace Go.Proofs.Ytffngpdngjfcfaa
open Go.RowKit Go.Maps
open Bd (Nd)

def arV (a b c : Nat) : Value := .agg #[i6 a, i6 b, i6 c]
theorem arV_inj {a b c a' b' c' : Nat} (h : arV a b c = arV a' b' c') : a = a' ∧ b = b' ∧ c = c' := by
  simp [arV] at h
  omega

/-- What stands under three numbers is the number of the one where another holds, else the third. -/
def KnownOk (L : List Nd) (f : Value → Option Int) : Prop := ∀ key kl v, keyOf Try.prog 91 key = some kl → f key = some v → ∃ a b c r : Nat, key = arV a b c ∧ v = (r : Int) ∧
  a < L.length + 2 ∧ b < L.length + 2 ∧ c < L.length + 2 ∧ r < L.length + 2 ∧ Bd.den L r = Bd.iteF (Bd.den L a) (Bd.den L b) (Bd.den L c)

theorem KnownOk.grow {L : List Nd} {f : Value → Option Int} (h : KnownOk L f) (N : List Nd) : KnownOk (L ++ N) f := by
  intro key kl v hk hv
  obtain ⟨a, b, c, r, h1, h2, h3, h4, h5, h6, h7⟩ := h key kl v hk hv
  have e : (L ++ N).length = L.length + N.length := List.length_append
  refine ⟨a, b, c, r, h1, h2, by omega, by omega, by omega, by omega, ?_⟩
  rw [Bd.den_append_old _ _ h6, Bd.den_append_old _ _ h3, Bd.den_append_old _ _ h4, Bd.den_append_old _ _ h5]
  exact h7
theorem KnownOk.put {L : List Nd} {f f' : Value → Option Int} (h : KnownOk L f) {a b c r : Nat} (ha : a < L.length + 2) (hb : b < L.length + 2) (hc : c < L.length + 2) (hr : r < L.length + 2) (hd : Bd.den L r = Bd.iteF (Bd.den L a) (Bd.den L b) (Bd.den L c))
    (hu : Upd f (arV a b c) (some (r : Int)) f') : KnownOk L f' := by
  intro key kl v hk hv
  by_cases e : key = arV a b c
  · subst e
    rw [hu.1] at hv
    cases hv
    exact ⟨a, b, c, r, rfl, rfl, ha, hb, hc, hr, hd⟩
  · rw [hu.2 _ e] at hv
    exact h key kl v hk hv

theorem any_sorted (p : Lit × DataW Unit → Bool) : ∀ l : List (Lit × DataW Unit), (l.foldr DataW.insert []).any p = l.any p
  | [] => rfl
  | x :: r => by rw [List.foldr_cons, Maps.any_insert, any_sorted p r, List.any_cons]

/-- A map has no more entries than there are numbers for its keys. -/
theorem MapOf.few {P : Program} {k e : TypeId} {w : World} {b sz : Nat} {f : Value → Option Int} (h : MapOf P k e w b sz f) (K : Keyed P k) (g : Value → Nat) (B : Nat)
    (hg : ∀ key kl, keyOf P k key = some kl → (f key).isSome = true → g key < B) (hi : ∀ key key' kl kl', keyOf P k key = some kl → keyOf P k key' = some kl' → (f key).isSome = true → (f key').isSome = true → g key = g key' → key = key') : sz ≤ B := by
  obtain ⟨D, ⟨es, clock, hb, F, hs, hD⟩, h2, h3⟩ := h
  have hsz : sz = es.toList.length := by rw [← h2, hD]; simp [Maps.size, length_sorted]
  have hkey : ∀ x ∈ es.toList, ∃ kl, keyOf P k x.key = some kl ∧ (f x.key).isSome = true := by
    intro x hx
    obtain ⟨y, hy⟩ := F.reads x hx
    have hk := WideElems.rd_key hy
    refine ⟨y.1, hk, ?_⟩
    rw [← (h3 _ _ hk).1, hD, Maps.has_eq, any_sorted, List.any_eq_true]
    refine ⟨WideElems.rg P k (plainElem P e) x, List.mem_map.2 ⟨x, hx, rfl⟩, ?_⟩
    rw [WideElems.rg_of hy]
    exact WideAt.sameKey_self (K.key hk)
  have hn : es.toList.Pairwise (fun x y => x.key ≠ y.key) := ((MapKept.stamped_iff es clock).1 F.stamped).2.2
  rw [hsz]
  refine Bd.pigeon B es.toList.length (fun i => g ((es.toList.getD i ⟨.bool false, .bool false, 0⟩).key)) ?_ ?_
  · intro i hi
    show g ((es.toList.getD i _).key) < B
    rw [List.getD_eq_getElem?_getD, List.getElem?_eq_getElem hi]
    obtain ⟨kl, h1, h2⟩ := hkey es.toList[i] (List.getElem_mem hi)
    exact hg _ _ h1 h2
  · intro i j hil hjl hij
    have hij' : g ((es.toList.getD i ⟨.bool false, .bool false, 0⟩).key) = g ((es.toList.getD j ⟨.bool false, .bool false, 0⟩).key) := hij
    rw [List.getD_eq_getElem?_getD, List.getElem?_eq_getElem hil, List.getD_eq_getElem?_getD, List.getElem?_eq_getElem hjl] at hij'
    obtain ⟨kl, h1, h2⟩ := hkey es.toList[i] (List.getElem_mem hil)
    obtain ⟨kl', h1', h2'⟩ := hkey es.toList[j] (List.getElem_mem hjl)
    have hsame := hi _ _ _ _ h1 h1' h2 h2' hij'
    rcases Nat.lt_trichotomy i j with h | h | h
    · exact absurd hsame (List.pairwise_iff_getElem.1 hn i j hil hjl h)
    · exact h
    · exact absurd hsame.symm (List.pairwise_iff_getElem.1 hn j i hjl hil h)

/-- A number for three. -/
def arN (B : Nat) : Value → Nat
  | .agg cs => (match cs.toList with | [.int _ a, .int _ b, .int _ c] => (a.toNat * B + b.toNat) * B + c.toNat | _ => 0)
  | _ => 0
theorem arN_arV (B a b c : Nat) : arN B (arV a b c) = (a * B + b) * B + c := by simp [arN, arV]

/-- How much can be known. -/
theorem known_few {w : World} {kb sz : Nat} {f : Value → Option Int} {L : List Nd} (h : MapOf Try.prog 91 3 w kb sz f) (hK : KnownOk L f) (hL : L.length ≤ 1048576) : sz < maxLen := by
  have := h.few kArr (arN (L.length + 2)) ((L.length + 2) * (L.length + 2) * (L.length + 2)) ?_ ?_
  · have h1 : (L.length + 2) * (L.length + 2) * (L.length + 2) ≤ 1048578 * 1048578 * 1048578 := Nat.mul_le_mul (Nat.mul_le_mul (by omega) (by omega)) (by omega)
    unfold maxLen
    omega
  · intro key kl hk hs
    obtain ⟨v, hv⟩ := Option.isSome_iff_exists.1 hs
    obtain ⟨a, b, c, r, rfl, rfl, h1, h2, h3, _⟩ := hK key kl v hk hv
    rw [arN_arV]
    have e1 : (a + 1) * (L.length + 2) ≤ (L.length + 2) * (L.length + 2) := Nat.mul_le_mul_right _ h1
    rw [Nat.add_mul] at e1
    have e2 : (a * (L.length + 2) + b + 1) * (L.length + 2) ≤ (L.length + 2) * (L.length + 2) * (L.length + 2) := Nat.mul_le_mul_right _ (by omega)
    rw [Nat.add_mul] at e2
    omega
  · intro key key' kl kl' hk hk' hs hs' he
    obtain ⟨v, hv⟩ := Option.isSome_iff_exists.1 hs
    obtain ⟨v', hv'⟩ := Option.isSome_iff_exists.1 hs'
    obtain ⟨a, b, c, r, rfl, rfl, h1, h2, h3, _⟩ := hK key kl v hk hv
    obtain ⟨a', b', c', r', rfl, rfl, h1', h2', h3', _⟩ := hK key' kl' v' hk' hv'
    rw [arN_arV, arN_arV] at he
    obtain ⟨e1, e2⟩ := Bd.mul_add_inj h3 h3' he
    obtain ⟨e3, e4⟩ := Bd.mul_add_inj h2 h2' e1
    rw [e2, e3, e4]
end Go.Proofs.Ytffngpdngjfcfaa
