/-
  And of some; Not, Diff; two refs of one function are one.
-/
import Derived.Test.YtffngpdngjfcfaaBOps
namespace Go.Proofs.Ytffngpdngjfcfaa
open Go.RowKit Go.Maps
open Bd (Nd)

set_option maxHeartbeats 1000000 in
theorem And_many {M : Nat} {w : World} {y : Lay} {s : St} (A : Bd.Fam s.bits M) (hT : Tab w y s) (hW : Bd.Within A s.L) (h2 : 2 ≤ s.first) (hsm : s.roots.length + 1 ≤ 1073741824) (hlim : s.bits * M ≤ s.limit) (v : Value) (ls ns : List Nat) (hR : RefsAt w v ls) (hl : ls.length ≤ 1000000) (hN : NodesOf s ls ns)
    (hns : ∀ m, m ∈ ns → m < s.L.length + 2) (F : Nat → Bd.Fn) (hz : Bd.tt = F 0) (hF : ∀ k m, ns[k]? = some m → F (k + 1) = Bd.iteF (F k) (Bd.den s.L m) Bd.ff ∧ A.F 0 (F (k + 1))) :
    Calls Try.prog 21 #[.pointer (some ⟨y.tb, 0, none⟩), v] w fun e w' => ∃ r, e = .returned (.tuple #[i6 r, .int .i64 0]) ∧ Told A w y s w' r (F ns.length) := by
  have hmf : ∀ (fn : Fn) (first cap : Array Value) (w : World), (Instr.makeFunc fn first cap).run Try.prog w = .ok (.func fn first cap) w := fun _ _ _ _ => rfl
  have hb : Below w.heap.size w (w.alloc (.cells #[.pointer (some ⟨y.tb, 0, none⟩)] 23)) := (Below.refl _ _).alloc (Nat.le_refl _) _
  have x0 := heap_alloc_new w (.cells #[.pointer (some ⟨y.tb, 0, none⟩)] 23)
  have hT1 := hT.below hb
  have hnl := hN.1
  have h := answer_ok A hT1 h2 hsm hlim v ls ns (hR.below hb) hl hN 49 enter_And #[.pointer (some ⟨w.heap.size, 0, none⟩)] (F ns.length) (fun w2 g hb2 hNA hg => by
    rw [← hnl]
    exact and_hows A (hT1.below hb2) hW hlim w.heap.size g ns (by omega) ((hb2.block _ (block_lt x0)).trans x0) hNA (fun ho => by have := hT1.lt ho; omega) hns F hz hF)
  have HA := keep h
  have HB := keep hb
  clear h hT hT1 hW hR hN hF x0 hb hnl hns hz hl
  go_enter Try.func21, Try.ntmps21
  go_wp2_with fail
  refine HA.out.mono ?_
  rintro e w' ⟨r, rfl, ⟨N, t, y', m, q1, q2, q3, q4, q5, q6, q7⟩⟩
  have HG : Hid (Told A w y s w' r (F ns.length)) := ⟨N, t, y', m, q1, q2, q3, q4, q5, (moves_below y HB.out).trans q6, q7⟩
  clear q1 q2 q3 q4 q5 q6 q7
  go_wp2_with fail
  go_ret2
  exact ⟨r, rfl, HG.out⟩

theorem node_no (s : St) : s.node? 0 = some 0 := rfl
theorem node_yes (s : St) : s.node? 1 = some 1 := rfl

set_option maxHeartbeats 400000 in
theorem Not_ok {M : Nat} {w : World} {y : Lay} {s : St} (A : Bd.Fam s.bits M) (hT : Tab w y s) (hW : Bd.Within A s.L) (h2 : 2 ≤ s.first) (hsm : s.roots.length + 1 ≤ 1073741824) (hlim : s.bits * M ≤ s.limit) (r0 n0 : Nat) (hn0 : s.node? r0 = some n0) (l0 : n0 < s.L.length + 2) (hF : A.F 0 (Bd.iteF (Bd.den s.L n0) Bd.ff Bd.tt)) :
    Calls Try.prog 20 #[.pointer (some ⟨y.tb, 0, none⟩), i6 r0] w fun e w' => ∃ r, e = .returned (.tuple #[i6 r, .int .i64 0]) ∧ Told A w y s w' r (Bd.iteF (Bd.den s.L n0) Bd.ff Bd.tt) := by
  have h := Ite_ok A hT hW h2 hsm hlim r0 0 1 n0 0 1 hn0 (node_no s) (node_yes s) l0 (by omega) (by omega) (by rw [Bd.den_zero, Bd.den_one]; exact hF)
  rw [Bd.den_zero, Bd.den_one] at h
  obtain ⟨f, hf⟩ : ∃ f, f = Bd.iteF (Bd.den s.L n0) Bd.ff Bd.tt := ⟨_, rfl⟩
  rw [← hf] at h ⊢
  have H := keep h
  clear h hT hW hF hn0 hf
  go_enter Try.func20, Try.ntmps20
  go_wp2_with fail
  refine H.out.mono ?_
  rintro e w' ⟨r, rfl, ht⟩
  have HT := keep ht
  clear ht
  go_wp2
  go_ret2
  exact ⟨r, rfl, HT.out⟩
set_option maxHeartbeats 400000 in
theorem Diff_ok {M : Nat} {w : World} {y : Lay} {s : St} (A : Bd.Fam s.bits M) (hT : Tab w y s) (hW : Bd.Within A s.L) (h2 : 2 ≤ s.first) (hsm : s.roots.length + 1 ≤ 1073741824) (hlim : s.bits * M ≤ s.limit) (r0 n0 r1 n1 : Nat) (hn0 : s.node? r0 = some n0) (hn1 : s.node? r1 = some n1) (l0 : n0 < s.L.length + 2) (l1 : n1 < s.L.length + 2) (hF : A.F 0 (Bd.iteF (Bd.den s.L n1) Bd.ff (Bd.den s.L n0))) :
    Calls Try.prog 22 #[.pointer (some ⟨y.tb, 0, none⟩), i6 r0, i6 r1] w fun e w' => ∃ r, e = .returned (.tuple #[i6 r, .int .i64 0]) ∧ Told A w y s w' r (Bd.iteF (Bd.den s.L n1) Bd.ff (Bd.den s.L n0)) := by
  have h := Ite_ok A hT hW h2 hsm hlim r1 0 r0 n1 0 n0 hn1 (node_no s) hn0 l1 (by omega) l0 (by rw [Bd.den_zero]; exact hF)
  rw [Bd.den_zero] at h
  obtain ⟨f, hf⟩ : ∃ f, f = Bd.iteF (Bd.den s.L n1) Bd.ff (Bd.den s.L n0) := ⟨_, rfl⟩
  rw [← hf] at h ⊢
  have H := keep h
  clear h hT hW hF hn0 hn1 hf
  go_enter Try.func22, Try.ntmps22
  go_wp2_with fail
  refine H.out.mono ?_
  rintro e w' ⟨r, rfl, ht⟩
  have HT := keep ht
  clear ht
  go_wp2
  go_ret2
  exact ⟨r, rfl, HT.out⟩

/-- Two refs of one node are one. -/
theorem node_inj {w : World} {y : Lay} {s : St} (hT : Tab w y s) {r r' m : Nat} (h : s.node? r = some m) (h' : s.node? r' = some m) : r = r' := by
  have root : ∀ q, ¬ q < 2 → s.node? q = some m → s.first ≤ q ∧ s.roots[q - s.first]? = some m := by
    intro q hq hn
    unfold St.node? at hn
    rw [if_neg hq] at hn
    by_cases h2 : s.first ≤ q
    · rw [if_pos h2] at hn; exact ⟨h2, hn⟩
    · rw [if_neg h2] at hn; cases hn
  have small : ∀ q, q < 2 → s.node? q = some m → q = m := by
    intro q hq hn
    unfold St.node? at hn
    rw [if_pos hq] at hn
    exact Option.some.inj hn
  have big : ∀ q, s.roots[q]? = some m → 2 ≤ m := fun q hq => (hT.valid.2 m (List.mem_of_getElem? hq)).1
  by_cases h1 : r < 2
  · have e1 := small r h1 h
    by_cases h3 : r' < 2
    · exact e1.trans (small r' h3 h').symm
    · have := big _ (root r' h3 h').2
      omega
  · obtain ⟨a1, a2⟩ := root r h1 h
    by_cases h3 : r' < 2
    · have := small r' h3 h'
      have := big _ a2
      omega
    · obtain ⟨b1, b2⟩ := root r' h3 h'
      have i1 := Bd.getElem?_lt a2
      have i2 := Bd.getElem?_lt b2
      rw [List.getElem?_eq_getElem i1] at a2
      rw [List.getElem?_eq_getElem i2] at b2
      have e : s.roots[r - s.first] = s.roots[r' - s.first] := by rw [Option.some.inj a2, Option.some.inj b2]
      have := (List.getElem_inj (h₀ := i1) (h₁ := i2) hT.valid.1).1 e
      omega
end Go.Proofs.Ytffngpdngjfcfaa
