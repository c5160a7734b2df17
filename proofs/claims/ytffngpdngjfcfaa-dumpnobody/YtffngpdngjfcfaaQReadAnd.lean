/-
  ite: the two halves, the node, what is known then.
  ite: the ways that make no node, and what is known already.
  ite: what is known of three numbers; how many can be known.
  The document's tell.
  The document's mark: the nodes of a function, in a row of marks.
  The document's table: bit, half.
-/
import Derived.Test.YtffngpdngjfcfaaBPutAnd
import Derived.Laws.AppendOwnNone
namespace Go.Proofs.Ytffngpdngjfcfaa
open Go.RowKit Go.Maps
open Bd (Nd)

/-- The first bit of a function; of an end, one behind all. -/
def qbit (bits : Nat) (L : List Nd) (n : Nat) : Nat := if n < 2 then bits else Bd.bitOf L n
theorem qbit_eq {bits : Nat} {L : List Nd} (h : Bd.Okay bits L) {n k : Nat} (hk : k < bits) : (qbit bits L n = k) ↔ (Bd.bitOf L n = k) := by
  have := h.few
  unfold qbit
  split
  · rename_i h2
    rw [Bd.bitOf_end _ h2]
    omega
  · exact Iff.rfl

set_option maxHeartbeats 1000000 in
theorem qbit_any {w : World} {y : QLay} {s : QSt} (hT : QTab w y s) (n : Nat) (hn : n < s.L.length + 2) :
    Calls Try.prog 94 #[.pointer (some ⟨y.tb, 0, none⟩), i6 n] w fun e w' => e = .returned (i6 (qbit s.bits s.L n)) ∧ w' = w := by
  have hsm := hT.small.1
  rcases Nat.lt_or_ge n 2 with h2 | h2
  · have h2I : (n : Int) < 2 := by omega
    have c0 := hT.cell0
    unfold qbit
    rw [if_pos h2]
    clear hT
    go_enter Try.func94, Try.ntmps94
    go_wp2
    go_ret
    exact ⟨rfl, rfl⟩
  · unfold qbit
    rw [if_neg (by omega)]
    obtain ⟨i, rfl⟩ : ∃ i, n = i + 2 := ⟨n - 2, by omega⟩
    have hx : s.L[i]? = some s.L[i] := List.getElem?_eq_getElem (by omega)
    rw [Bd.bitOf_at hx]
    have c2 := hT.cell2
    obtain ⟨g, cap, hv, h0, _, _⟩ := hT.node hx
    rw [hv] at c2
    generalize s.L[i] = x at *
    generalize s.L.length = len at *
    have e1 : ((i + 2 : Nat) : Int) = (i : Int) + 2 := by omega
    simp only [i6, e1]
    have hl : ¬ ((i : Int) + 2 < 2) := by omega
    have hI : (i : Int) < (len : Int) := by omega
    clear hT
    go_enter Try.func94, Try.ntmps94
    go_wp2
    go_ret
    exact ⟨rfl, rfl⟩

def halfOf (L : List Nd) (n k : Nat) (b : Bool) : Nat := if b = true then Bd.hiOf L n k else Bd.loOf L n k

set_option maxHeartbeats 1000000 in
theorem qhalf_any {w : World} {y : QLay} {s : QSt} (hT : QTab w y s) (n k : Nat) (b : Bool) (hn : n < s.L.length + 2) (hk : k < s.bits) :
    Calls Try.prog 95 #[.pointer (some ⟨y.tb, 0, none⟩), i6 n, i6 k, .bool b] w fun e w' => e = .returned (i6 (halfOf s.L n k b)) ∧ w' = w := by
  have hsm := hT.small.1
  have hf := hT.okay.few
  by_cases hb : Bd.bitOf s.L n = k
  · have h2 := Bd.half_at (by omega) hb
    have hq := (qbit_eq hT.okay hk).2 hb
    obtain ⟨i, rfl⟩ : ∃ i, n = i + 2 := ⟨n - 2, by omega⟩
    have hx : s.L[i]? = some s.L[i] := List.getElem?_eq_getElem (by omega)
    have hlo : Bd.loOf s.L (i + 2) k = s.L[i].2.1 := by unfold Bd.loOf; rw [if_pos hb, List.getD_eq_getElem?_getD]; simp only [Nat.add_sub_cancel, hx, Option.getD_some]
    have hhi : Bd.hiOf s.L (i + 2) k = s.L[i].2.2 := by unfold Bd.hiOf; rw [if_pos hb, List.getD_eq_getElem?_getD]; simp only [Nat.add_sub_cancel, hx, Option.getD_some]
    have hbit := qbit_any hT (i + 2) hn
    unfold halfOf
    rw [hlo, hhi]
    rw [hq] at hbit
    clear hlo hhi hq hb
    have c2 := hT.cell2
    obtain ⟨g, cap, hv, h0, h1, h3⟩ := hT.node hx
    rw [hv] at c2
    generalize s.L[i] = x at *
    generalize s.L.length = len at *
    have e1 : ((i + 2 : Nat) : Int) = (i : Int) + 2 := by omega
    simp only [i6, e1] at hbit ⊢
    have hI : (i : Int) < (len : Int) := by omega
    have HB := keep hbit
    clear hbit hT
    cases b
    all_goals
      go_enter Try.func95, Try.ntmps95
      go_wp2_with (go_at_call 94; refine HB.out.mono ?_; rintro e w' ⟨rfl, rfl⟩)
      go_ret
      exact ⟨rfl, rfl⟩
  · have hlo : Bd.loOf s.L n k = n := by unfold Bd.loOf; rw [if_neg hb]
    have hhi : Bd.hiOf s.L n k = n := by unfold Bd.hiOf; rw [if_neg hb]
    have hq : qbit s.bits s.L n ≠ k := fun h => hb ((qbit_eq hT.okay hk).1 h)
    have HB := keep (qbit_any hT n hn)
    have hh : halfOf s.L n k b = n := by unfold halfOf; rw [hlo, hhi]; split <;> rfl
    rw [hh]
    have hne : ((qbit s.bits s.L n : Int) != (k : Int)) = true := by rw [bne_iff_ne]; omega
    clear hT hlo hhi hq hh hb
    generalize qbit s.bits s.L n = m at *
    go_enter Try.func95, Try.ntmps95
    go_wp2_with (go_at_call 94; refine HB.out.mono ?_; rintro e w' ⟨rfl, rfl⟩)
    go_ret
    exact ⟨rfl, rfl⟩
end Go.Proofs.Ytffngpdngjfcfaa
namespace Go.Proofs.Ytffngpdngjfcfaa
open Go.RowKit Go.Maps
open Bd (Nd)

def markF (L : List Nd) : Nat → Nat → List Bool → List Bool
  | 0, _, U => U
  | f + 1, a, U => if a < 2 then U else if U.getD (a - 2) false = true then U else markF L f (L.getD (a - 2) (0, 0, 0)).2.2 (markF L f (L.getD (a - 2) (0, 0, 0)).2.1 (U.set (a - 2) true))
theorem markF_succ (L : List Nd) (f a : Nat) (U : List Bool) : markF L (f + 1) a U = if a < 2 then U else if U.getD (a - 2) false = true then U else markF L f (L.getD (a - 2) (0, 0, 0)).2.2 (markF L f (L.getD (a - 2) (0, 0, 0)).2.1 (U.set (a - 2) true)) := rfl
theorem markF_length (L : List Nd) : ∀ f a U, (markF L f a U).length = U.length := by
  intro f
  induction f with
  | zero => intro a U; rfl
  | succ f ih =>
    intro a U
    rw [markF_succ]
    split
    · rfl
    · split
      · rfl
      · rw [ih, ih, List.length_set]

theorem boos_set (U : List Bool) (i : Nat) (b : Bool) : (boos U).set i (.bool b) = boos (U.set i b) := by simp [boos, List.map_set]

/-- What mark leaves: the marks, in their place; all else is as it was. -/
structure Marked (w : World) (g cap n : Nat) (U : List Bool) (w' : World) : Prop where
  row : w'.ownsRow 0 4 1 (.slice (some ⟨g, 0, none⟩) n cap) n (boos U)
  os : w'.os = w.os
  tape : w'.tape = w.tape
  output : w'.output = w.output
  size : w'.heap.size = w.heap.size
  block : ∀ k, k ≠ g → w'.heap[k]? = w.heap[k]?

theorem Marked.trans {w w1 w2 : World} {g cap n : Nat} {U V : List Bool} (h : Marked w g cap n U w1) (h' : Marked w1 g cap n V w2) : Marked w g cap n V w2 :=
  ⟨h'.row, h'.os.trans h.os, h'.tape.trans h.tape, h'.output.trans h.output, h'.size.trans h.size, fun k hk => (h'.block k hk).trans (h.block k hk)⟩

set_option maxHeartbeats 2000000 in
theorem mark_any {y : QLay} {s : QSt} (g cap : Nat) (hg : ¬ y.own g) : ∀ f a, a < f + 2 → a < s.L.length + 2 → ∀ (w : World) (U : List Bool), QTab w y s → U.length = s.L.length → w.ownsRow 0 4 1 (.slice (some ⟨g, 0, none⟩) s.L.length cap) s.L.length (boos U) →
    Calls Try.prog 93 #[.pointer (some ⟨y.tb, 0, none⟩), i6 a, .slice (some ⟨g, 0, none⟩) s.L.length cap] w fun e w' => e = .returned (.tuple #[]) ∧ Marked w g cap s.L.length (markF s.L (f + 1) a U) w' := by
  intro f
  induction f with
  | zero =>
    intro a ha hal w U hT hU hrow
    have hm : markF s.L (0 + 1) a U = U := by rw [markF_succ, if_pos (by omega)]
    rw [hm]
    have HR : Hid (Marked w g cap s.L.length U w) := ⟨hrow, rfl, rfl, rfl, rfl, fun _ _ => rfl⟩
    have haI : (a : Int) < 2 := by omega
    clear hT hrow
    go_enter Try.func93, Try.ntmps93
    go_wp2
    exact bodyPost_ret (v := .tuple #[]) (by simp [results, Try.results93, go_sem]) rfl ⟨rfl, HR.out⟩
  | succ f ih =>
    intro a ha hal w U hT hU hrow
    by_cases ha2 : a < 2
    · have hm : markF s.L (f + 1 + 1) a U = U := by rw [markF_succ, if_pos (by omega)]
      rw [hm]
      have HR : Hid (Marked w g cap s.L.length U w) := ⟨hrow, rfl, rfl, rfl, rfl, fun _ _ => rfl⟩
      have haI : (a : Int) < 2 := by omega
      clear hT hrow ih
      go_enter Try.func93, Try.ntmps93
      go_wp2
      exact bodyPost_ret (v := .tuple #[]) (by simp [results, Try.results93, go_sem]) rfl ⟨rfl, HR.out⟩
    · obtain ⟨i, rfl⟩ : ∃ i, a = i + 2 := ⟨a - 2, by omega⟩
      have hi : i < s.L.length := by omega
      obtain ⟨x, hx⟩ : ∃ x, s.L[i]? = some x := ⟨s.L[i], List.getElem?_eq_getElem hi⟩
      obtain ⟨b, hb⟩ : ∃ b, b = U.getD i false := ⟨_, rfl⟩
      have cu : w.cell? ⟨g, i, none⟩ = some (.bool b) := by
        rw [hrow.cellAt i (by omega), hb]
        simp [boos, List.getD_eq_getElem?_getD, List.getElem?_eq_getElem (show i < U.length by omega)]
      have fzu := hrow.frozenAt i
      have e1 : ((i + 2 : Nat) : Int) = (i : Int) + 2 := by omega
      have hl : ¬ ((i : Int) + 2 < 2) := by omega
      have hI : (i : Int) < (s.L.length : Int) := by omega
      have hsm := hT.small.1
      cases b with
      | true =>
        have hm : markF s.L (f + 1 + 1) (i + 2) U = U := by rw [markF_succ, if_neg (by omega), Nat.add_sub_cancel, if_pos hb.symm]
        rw [hm]
        have HR : Hid (Marked w g cap s.L.length U w) := ⟨hrow, rfl, rfl, rfl, rfl, fun _ _ => rfl⟩
        simp only [i6, e1]
        generalize s.L.length = len at *
        clear hT hrow ih hm hb hU hx e1
        go_enter Try.func93, Try.ntmps93
        go_wp2
        exact bodyPost_ret (v := .tuple #[]) (by simp [results, Try.results93, go_sem]) rfl ⟨rfl, HR.out⟩
      | false =>
        have hfit := hT.okay.fit i _ hx
        have hm : markF s.L (f + 1 + 1) (i + 2) U = markF s.L (f + 1) x.2.2 (markF s.L (f + 1) x.2.1 (U.set i true)) := by
          rw [markF_succ, if_neg (by omega), Nat.add_sub_cancel, if_neg (by rw [← hb]; simp)]
          have e : s.L.getD i (0, 0, 0) = x := by rw [List.getD_eq_getElem?_getD, hx]; rfl
          rw [e]
        rw [hm]
        have hrow1 := (hrow.stored i (.bool true)).1
        rw [boos_set] at hrow1
        have M0 : Marked w g cap s.L.length (U.set i true) (w.setCell ⟨g, i, none⟩ (.bool true)) := ⟨hrow1, rfl, rfl, rfl, by simp, fun k hk => set_other _ hk⟩
        have keepT : ∀ {w1 : World} {V : List Bool}, Marked w g cap s.L.length V w1 → QTab w1 y s := fun hM => hT.same fun k hk => hM.block k (fun e => hg (by rw [← e]; exact hk))
        have T0 := keepT M0
        have c1 := ih x.2.1 (by omega) (by omega) _ (U.set i true) T0 (by rw [List.length_set]; exact hU) hrow1
        have HC1 := keep c1
        have c2' := hT.cell2
        obtain ⟨gn, capn, hv, n0, n1, n2⟩ := hT.node hx
        have hgn : gn ≠ g := fun e => hg (by rw [← e]; exact y.own_ns (by rw [hv]; rfl))
        have htb : y.tb ≠ g := fun e => hg (by rw [← e]; exact y.own_tb)
        rw [hv] at c2'
        have HNX : Hid (∀ w1, Marked w g cap s.L.length (markF s.L (f + 1) x.2.1 (U.set i true)) w1 → (w1.cell? ⟨y.tb, 2, none⟩ = some (.slice (some ⟨gn, 0, none⟩) s.L.length capn) ∧ w1.cell? ⟨gn, i * 3 + 2, none⟩ = some (.int .i64 x.2.2)) ∧
            Calls Try.prog 93 #[.pointer (some ⟨y.tb, 0, none⟩), i6 x.2.2, .slice (some ⟨g, 0, none⟩) s.L.length cap] w1 fun e w' => e = .returned (.tuple #[]) ∧ Marked w g cap s.L.length (markF s.L (f + 1) x.2.2 (markF s.L (f + 1) x.2.1 (U.set i true))) w') := fun w1 hM => by
          refine ⟨⟨by rw [World.cell?_of_block (hM.block _ htb)]; exact c2', by rw [World.cell?_of_block (hM.block _ hgn)]; exact n2⟩, ?_⟩
          refine (ih x.2.2 (by omega) (by omega) w1 _ (keepT hM) (by rw [markF_length, List.length_set]; exact hU) hM.row).mono ?_
          rintro e w' ⟨rfl, h⟩
          exact ⟨rfl, hM.trans h⟩
        have HM0 := keep M0
        simp only [i6, e1] at HC1 HNX ⊢
        generalize hlen : s.L.length = len at *
        clear hT hrow ih hm c1 hrow1 M0 T0 keepT hfit hb hU hx e1 hlen hv
        go_enter Try.func93, Try.ntmps93
        go_wp2_with fail
        refine HC1.out.mono ?_
        rintro e w1 ⟨rfl, h1⟩
        obtain ⟨⟨q2, q3⟩, q4⟩ := HNX.out w1 (HM0.out.trans h1)
        have HC2 := keep q4
        clear q4 h1
        go_wp2_with fail
        refine HC2.out.mono ?_
        rintro e w2 ⟨rfl, h2⟩
        have H2 := keep h2
        clear h2
        go_wp2
        go_end0
        exact ⟨rfl, H2.out⟩
end Go.Proofs.Ytffngpdngjfcfaa
namespace Go.Proofs.Ytffngpdngjfcfaa
open Go.RowKit Go.Maps
open Bd (Nd)

theorem boos_one (l : List Bool) : ∀ u ∈ boos l, u.oneCell' = true := by
  intro u hu
  obtain ⟨b, _, rfl⟩ := List.mem_map.1 hu
  rfl
/-- append of a row of marks, nil or not, onto one of one's own. -/
theorem wpList_append_boo {P : Program} (w : World) {ops : Array Oper} {rest : List Oper} {o : Oper} {a : Act} {Q : Exit → Act → World → Prop} (hgd : o.guard = none) (s x : Operand) (t : TypeId)
    (ho : o.op = .call { callee := .builtin .append, args := #[s, x], argTypes := #[t, t] })
    (base : Nat) (e : TypeId) (i : TypeInfo) (z : Value) (bytes : Nat) (ht : P.underlying t = some (.slice e)) (hi : P.info? e = some i) (hz : i.zero = some z)
    (hsize : i.size = 1) (hby : i.bytes = bytes) (hzs : z.cells.size = 1)
    (g c : Nat) (hs : a.eval s = .slice (some ⟨g, 0, none⟩) 0 c) (hown : w.ownsRow base e 1 (.slice (some ⟨g, 0, none⟩) 0 c) 0 [])
    (vx : Value) (m : Nat) (U : List Bool) (hx : a.eval x = vx) (hsrc : w.ownsRow 0 e 1 vx m (boos U))
    (h63 : m ≤ maxLen) (hbytes : m * bytes ≤ 140737488355328) (hbase : base ≤ w.heap.size)
    (h : ∀ g' cap w', w'.ownsRow base e 1 (.slice (some ⟨g', 0, none⟩) m cap) m (boos U) → w.grownBy w' (some g) → (g' = g ∨ g' = w.heap.size) → wpList P ops Q rest (a.put o.dst (.slice (some ⟨g', 0, none⟩) m cap)) w') :
    wpList P ops Q (o :: rest) a w := by
  have h0 := hsrc
  rcases hsrc.2 with ⟨rfl, rfl⟩ | ⟨gx, cap, cur, rfl, _, hg, _⟩
  · refine wpList_append_own_none hgd s x t ho base e i 1 ht hi _ 0 [] hs hown hx ?_
    have hU : U = [] := by have := h0.1; rw [boos_length] at this; exact List.length_eq_zero_iff.1 (by omega)
    refine h g c w ?_ ⟨rfl, rfl, rfl, Nat.le_refl _, fun _ _ _ => rfl⟩ (Or.inl rfl)
    rw [hU]
    exact hown
  · have hl := h0.1
    refine wpList_append_own_at w hgd s x t ho base e i z 1 bytes ht hi hz hsize hby hzs (by decide) _ 0 [] hs hown ⟨gx, 0, none⟩ m cap (boos U) hx hl (fun j u hj => h0.cells rfl j u hj) (boos_one U) (by omega) (by rw [Nat.zero_add]; exact hbytes) hbase ?_
    intro v' w' h1 h2 h3 h4
    rw [Nat.zero_add] at h1
    obtain ⟨ao, cp, hv⟩ := row_slice h1
    have hne : v' ≠ .slice none 0 0 := fun e => by
      have := h3.1 e
      simp at this
    rcases h1.2 with ⟨e, _⟩ | ⟨g', cp', cur', e, _⟩
    · exact absurd e hne
    · subst e
      refine h g' cp' w' h1 h2 ?_
      rcases h4 with e | e
      · left; simp [Value.ownBlock] at e; exact e
      · right; simp [Value.ownBlock] at e; exact e

theorem row_zero {w : World} {base e size n : Nat} {v : Value} {xs : List Value} (h : w.ownsRow base e size v n xs) : w.ownsRow 0 e size v n xs := by
  refine ⟨h.1, ?_⟩
  rcases h.2 with q | ⟨g, cap, cur, e, _, h2⟩
  · exact Or.inl q
  · exact Or.inr ⟨g, cap, cur, e, Nat.zero_le _, h2⟩
def cntB (l : List Bool) : Nat := l.count true
theorem cntB_le (l : List Bool) : cntB l ≤ l.length := List.count_le_length
theorem cntB_succ {U : List Bool} {j : Nat} {b : Bool} (h : U[j]? = some b) : cntB (U.take (j + 1)) = cntB (U.take j) + (if b = true then 1 else 0) := by
  unfold cntB
  rw [List.take_add_one, h]
  cases b <;> simp

def QSt.tell (s : QSt) (a : Nat) : QSt := { s with U := markF s.L (s.L.length + 1) a s.U, T := if a < 2 then s.T else s.T.set (a - 2) true }

/-- The marks are the table's own. -/
theorem qtell_tab {w w1 : World} {y : QLay} {s : QSt} {a g cap : Nat} (hT : QTab w1 y s) (ha : a < s.L.length + 2) (hrow : w1.ownsRow 0 4 1 (.slice (some ⟨g, 0, none⟩) s.L.length cap) s.L.length (boos (markF s.L (s.L.length + 1) a s.U))) (hg : ¬ y.own g) (hgw : w.heap.size ≤ g) (hb : Below w.heap.size w w1) (_hy : ∀ k, y.own k → k < w.heap.size) :
    ∃ gt ct, (2 ≤ a → y.ts = .slice (some ⟨gt, 0, none⟩) s.L.length ct ∧ gt ≠ y.tb) ∧
    QTab (if a < 2 then w1.setCell ⟨y.tb, 3, none⟩ (.slice (some ⟨g, 0, none⟩) s.L.length cap) else (w1.setCell ⟨y.tb, 3, none⟩ (.slice (some ⟨g, 0, none⟩) s.L.length cap)).setCell ⟨gt, a - 2, none⟩ (.bool true)) { y with us := .slice (some ⟨g, 0, none⟩) s.L.length cap } (s.tell a) ∧
    Touch y.own (QLay.own { y with us := .slice (some ⟨g, 0, none⟩) s.L.length cap }) w (if a < 2 then w1.setCell ⟨y.tb, 3, none⟩ (.slice (some ⟨g, 0, none⟩) s.L.length cap) else (w1.setCell ⟨y.tb, 3, none⟩ (.slice (some ⟨g, 0, none⟩) s.L.length cap)).setCell ⟨gt, a - 2, none⟩ (.bool true)) := by
  obtain ⟨a1, a2, a3, a4, a5⟩ := hT.apart
  have hgt : g ≠ y.tb := fun e => hg (by rw [e]; exact y.own_tb)
  have hset := set_block (o := 3) (.slice (some ⟨g, 0, none⟩) s.L.length cap) hT.cells
  have hnot : ∀ k, y.own k → k ≠ g := fun k hk e => hg (by rw [← e]; exact hk)
  -- the table behind the first store
  have T1 : QTab (w1.setCell ⟨y.tb, 3, none⟩ (.slice (some ⟨g, 0, none⟩) s.L.length cap)) { y with us := .slice (some ⟨g, 0, none⟩) s.L.length cap } { s with U := markF s.L (s.L.length + 1) a s.U } :=
    { cells := by rw [hset]; rfl
      list := row_same hT.list fun g' hg' => set_other _ (fun e => a1 (by rw [hg', e]))
      used := row_same hrow fun g' hg' => set_other _ (by simp [Value.ownBlock] at hg'; rw [← hg']; exact hgt)
      told := row_same hT.told fun g' hg' => set_other _ (fun e => a3 (by rw [hg', e]))
      two := fun g' e1 e2 => by simp [Value.ownBlock] at e1; subst e1; exact hg (y.own_ts e2)
      okay := hT.okay
      small := hT.small }
  have Tch : Touch y.own (QLay.own { y with us := .slice (some ⟨g, 0, none⟩) s.L.length cap }) w (w1.setCell ⟨y.tb, 3, none⟩ (.slice (some ⟨g, 0, none⟩) s.L.length cap)) := by
    refine ⟨fun k hk => ?_, hb.os, hb.tape, hb.output, by have := hb.size; simpa using this, fun k hk hn => ?_⟩
    · rcases hk with e | e | e | e
      · exact Or.inl (Or.inl e)
      · exact Or.inl (y.own_ns e)
      · simp [Value.ownBlock] at e; right; omega
      · exact Or.inl (y.own_ts e)
    · rw [set_other _ (fun e => hn (by rw [show k = y.tb from e]; exact y.own_tb))]
      exact hb.block k hk
  by_cases h2 : a < 2
  · refine ⟨0, 0, fun h => by omega, ?_, ?_⟩
    · rw [if_pos h2]
      have e : s.tell a = { s with U := markF s.L (s.L.length + 1) a s.U } := by unfold QSt.tell; rw [if_pos h2]
      rw [e]
      exact T1
    · rw [if_pos h2]; exact Tch
  · obtain ⟨gt, ct, hv, _, hgl⟩ := hT.told.form (by omega)
    have hto : y.ts.ownBlock = some gt := by rw [hv]; rfl
    have hgtb : gt ≠ y.tb := fun e => a3 (by rw [hto, e])
    have hl := T1.told
    have hv' : ({ y with us := .slice (some ⟨g, 0, none⟩) s.L.length cap } : QLay).ts = .slice (some ⟨gt, 0, none⟩) s.L.length ct := hv
    rw [hv'] at hl
    obtain ⟨hst, hgr⟩ := hl.stored (a - 2) (.bool true)
    rw [boos_set] at hst
    refine ⟨gt, ct, fun _ => ⟨hv, hgtb⟩, ?_, ?_⟩
    · rw [if_neg h2]
      have e : s.tell a = { s with U := markF s.L (s.L.length + 1) a s.U, T := s.T.set (a - 2) true } := by unfold QSt.tell; rw [if_neg h2]
      rw [e]
      have hgg : g ≠ gt := fun e => hg (by rw [e]; exact y.own_ts hto)
      refine { cells := ?_, list := ?_, used := ?_, told := ?_, two := T1.two, okay := T1.okay, small := T1.small }
      · rw [set_other _ (fun e => hgtb (Eq.symm e))]; exact T1.cells
      · exact row_same T1.list fun g' hg' => set_other _ (fun e => a5 g' hg' (by rw [hto]; exact congrArg some (Eq.symm e)))
      · exact row_same T1.used fun g' hg' => set_other _ (fun e => by simp [Value.ownBlock] at hg'; exact hgg (hg'.trans e))
      · show World.ownsRow _ 0 4 1 y.ts s.L.length (boos (s.T.set (a - 2) true))
        rw [hv]
        exact hst
    · rw [if_neg h2]
      refine Tch.trans ⟨fun k hk => Or.inl hk, rfl, rfl, rfl, by simp, fun k hk hn => set_other _ (fun e => hn (by rw [show k = gt from e]; exact QLay.own_ts _ hto))⟩

set_option maxRecDepth 2000 in
set_option maxHeartbeats 4000000 in
theorem qtell_any {w : World} {y : QLay} {s : QSt} (hT : QTab w y s) (a : Nat) (ha : a < s.L.length + 2) :
    Calls Try.prog 69 #[.pointer (some ⟨y.tb, 0, none⟩), i6 a] w fun e w' =>
      (s.limit < cntB (s.tell a).U ∧ e = .returned (.tuple #[.int .i64 0, .int .i64 20]) ∧ Below w.heap.size w w') ∨
      (cntB (s.tell a).U ≤ s.limit ∧ e = .returned (.tuple #[i6 a, .int .i64 0]) ∧ ∃ y', QTab w' y' (s.tell a) ∧ Touch y.own y'.own w w' ∧ y'.tb = y.tb) := by
  obtain ⟨i1, hi1, hy0, hy1, hy2⟩ := info_parts Try.infoBoo
  have HI1 := keep hi1
  have HY0 := keep hy0
  have HY1 := keep hy1
  have HY2 := keep hy2
  have HT := keep hT
  have HA := keep ha
  have hsm := hT.small
  have c3 := hT.cell3
  have ltb := hT.lt y.own_tb
  obtain ⟨n, hn⟩ : ∃ n, n = s.L.length := ⟨_, rfl⟩
  have HN := keep hn
  have hlimI : (s.limit : Int) ≤ 1048576 := by omega
  have hnI : (n : Int) ≤ 1073741824 := by omega
  clear hT hi1 hy0 hy1 hy2 hsm hn
  go_enter Try.func69, Try.ntmps69
  have HO := keep (World.ownsRow_lit (e := 4) (size := 1) w #[] 0 (Nat.le_refl _) (by unfold maxLen; omega) rfl)
  have HU : Hid (∀ o, (w.alloc o).ownsRow 0 4 1 y.us n (boos s.U)) := fun o => by rw [HN.out]; exact HT.out.used.alloc o
  go_wp2_with (at_builtin; refine wpList_append_boo _ rfl (.tmp 9) (.tmp 13) 111 rfl w.heap.size 4 i1 (.bool false) 1 Try.underlying111 HI1.out HY0.out HY1.out HY2.out rfl w.heap.size 0 rfl HO.out y.us n s.U rfl (HU.out _) (by unfold maxLen; omega) (by omega) (by simp) ?_)
  intro g cap w1 hown1 hgrow1 hat1
  have hB1 : Below w.heap.size w w1 := ((Below.refl _ _).alloc (Nat.le_refl _) _).grown hgrow1 (by simp) (fun k hk => by simp at hk; omega)
  have hgw : w.heap.size ≤ g := (hown1.lt g rfl).1
  have hgn : ¬ y.own g := fun ho => by have := HT.out.lt ho; omega
  have T1 := HT.out.below hB1
  have hrow1 : w1.ownsRow 0 4 1 (.slice (some ⟨g, 0, none⟩) n cap) n (boos s.U) := row_zero hown1
  have HC : Hid (Calls Try.prog 93 #[.pointer (some ⟨y.tb, 0, none⟩), i6 a, .slice (some ⟨g, 0, none⟩) n cap] w1 fun e w2 => e = .returned (.tuple #[]) ∧ Marked w1 g cap n (s.tell a).U w2) := by
    have := mark_any (s := s) g cap hgn s.L.length a (by omega) (by omega) w1 s.U T1 T1.lenU (by rw [HN.out] at hrow1; exact hrow1)
    rw [← HN.out] at this
    rw [HN.out] at this ⊢
    exact this
  have HB1 := keep hB1
  have HT1 := keep T1
  clear hown1 hgrow1 hat1 T1 hrow1 HO HU hB1
  go_wp2_with fail
  refine HC.out.mono ?_
  rintro e w2 ⟨rfl, hm⟩
  have HM := keep hm
  have hlV : (s.tell a).U.length = n := by
    have := hm.row.1
    rw [boos_length] at this
    omega
  have HLV := keep hlV
  have HB2 : Hid (Below w.heap.size w w2) := ⟨hm.os.trans HB1.out.os, hm.tape.trans HB1.out.tape, hm.output.trans HB1.out.output, by rw [hm.size]; exact HB1.out.size, fun k hk => (hm.block k (by omega)).trans (HB1.out.block k hk)⟩
  have HT2 : Hid (QTab w2 y s) := HT1.out.same fun k hk => hm.block k (fun e => hgn (by rw [← e]; exact hk))
  clear hm HC hlV
  go_wp2
  obtain ⟨V, hV⟩ : ∃ V, V = (s.tell a).U := ⟨_, rfl⟩
  have HVV := keep hV
  rw [← hV] at HM HLV
  clear hV
  go_loopw [7, 8] (fun p i wr => ∃ j : Nat, j ≤ n ∧ i = .int .i64 j ∧ p = .int .i64 (cntB (V.take j)) ∧ wr = w2) (fun _ i _ => n - (intOf i).toNat)
  case atStart => exact ⟨0, Nat.zero_le _, rfl, rfl, rfl⟩
  case round =>
    obtain ⟨j, hj, rfl, rfl, rfl⟩ := hrel
    have hcj : (cntB (V.take j) : Int) ≤ 1073741824 := by
      have h1 := cntB_le (V.take j)
      have h2 : (V.take j).length ≤ j := List.length_take_le _ _
      omega
    by_cases hlt : j < n
    · obtain ⟨b, hb⟩ : ∃ b, V[j]? = some b := ⟨V[j]'(by rw [HLV.out]; exact hlt), List.getElem?_eq_getElem (by rw [HLV.out]; exact hlt)⟩
      have HS := keep (cntB_succ hb)
      have cb : wr.cell? ⟨g, j, none⟩ = some (.bool b) := by
        rw [HM.out.row.cellAt j (by omega)]
        simp [boos, hb]
      have hjI : (j : Int) < (n : Int) := by omega
      obtain ⟨q, hq⟩ : ∃ q, q = cntB (V.take j) := ⟨_, rfl⟩
      rw [← hq] at hcj ⊢
      have HQ := keep hq
      clear hb hq
      cases b
      · go_wp2
        go_roundw
        case rel => exact ⟨j + 1, by omega, by go_num, by rw [HS.out, ← HQ.out]; rfl, by first | trivial | rfl⟩
        case measure => simp [intOf]; omega
      · go_wp2
        go_roundw
        case rel => exact ⟨j + 1, by omega, by go_num, by rw [HS.out, ← HQ.out]; simp, by first | trivial | rfl⟩
        case measure => simp [intOf]; omega
    · have hjn : j = n := by omega
      subst hjn
      have hall : V.take j = V := by rw [← HLV.out]; exact List.take_length
      rw [hall] at hcj ⊢
      have c1 := HT2.out.cell1
      obtain ⟨q, hq⟩ : ∃ q, q = cntB V := ⟨_, rfl⟩
      rw [← hq] at hcj ⊢
      have HQ : Hid (q = cntB (s.tell a).U) := by rw [← HVV.out]; exact hq
      clear hall hq
      rcases Nat.lt_or_ge s.limit q with hfull | hfit
      · have hfI : (s.limit : Int) < (q : Int) := by omega
        go_wp2
        go_ret2
        exact Or.inl ⟨by rw [← HQ.out]; exact hfull, rfl, HB2.out⟩
      · have hfI : ¬ (s.limit : Int) < (q : Int) := by omega
        have hrowV := HM.out.row
        rw [HVV.out] at hrowV
        have hrowV' : wr.ownsRow 0 4 1 (.slice (some ⟨g, 0, none⟩) s.L.length cap) s.L.length (boos (markF s.L (s.L.length + 1) a s.U)) := by
          rw [HN.out] at hrowV
          exact hrowV
        obtain ⟨gt, ct, hts, hTT, hTch⟩ := qtell_tab HT2.out HA.out hrowV' hgn hgw HB2.out (fun k hk => HT.out.lt hk)
        rw [← HN.out] at hTT hTch hts
        have c3' := HT2.out.cell3
        have c4' := HT2.out.cell4
        have f3 : wr.frozen? ⟨y.tb, 3, none⟩ = false := not_frozen HT2.out.cells
        by_cases h2 : a < 2
        · rw [if_pos h2] at hTT hTch
          have hI2 : ¬ (2 : Int) ≤ (a : Int) := by omega
          have HR := keep (And.intro hTT hTch)
          clear hTT hTch hts hrowV hrowV'
          go_wp2
          go_ret2
          exact Or.inr ⟨by rw [← HQ.out]; exact hfit, rfl, _, HR.out.1, HR.out.2, rfl⟩
        · rw [if_neg h2] at hTT hTch
          obtain ⟨htsE, hgtb⟩ := hts (by omega)
          obtain ⟨i, rfl⟩ : ∃ i, a = i + 2 := ⟨a - 2, by omega⟩
          rw [htsE] at c4'
          have hi : i < s.L.length := by have := HA.out; omega
          have ct4 := HT2.out.told
          rw [htsE, ← HN.out] at ct4
          obtain ⟨bt, hbt⟩ : ∃ bt, wr.cell? ⟨gt, i, none⟩ = some (.bool bt) := by
            rw [ct4.cellAt i (by rw [HN.out]; omega)]
            have := HT2.out.lenT
            exact ⟨s.T[i]'(by omega), by simp [boos, List.getElem?_eq_getElem (show i < s.T.length by omega)]⟩
          have fgt := ct4.frozenAt i
          have HR := keep (And.intro hTT hTch)
          have e1 : ((i + 2 : Nat) : Int) = (i : Int) + 2 := by omega
          have hIn : (i : Int) < (j : Int) := by have := HN.out; omega
          simp only [i6, e1]
          clear hTT hTch hts hrowV hrowV' htsE ct4 hi e1
          go_wp2
          go_ret2
          exact Or.inr ⟨by rw [← HQ.out]; exact hfit, by simp, _, HR.out.1, HR.out.2, rfl⟩
end Go.Proofs.Ytffngpdngjfcfaa
namespace Go.Proofs.Ytffngpdngjfcfaa
open Go.RowKit Go.Maps
open Bd (Nd)

def arV (a b c : Nat) : Value := .agg #[i6 a, i6 b, i6 c]
theorem arV_inj {a b c a' b' c' : Nat} (h : arV a b c = arV a' b' c') : a = a' ∧ b = b' ∧ c = c' := by
  simp [arV] at h
  omega

/-- What stands under three numbers is the number of the one where another holds, else the third. -/
def KnownOk (L : List Nd) (f : Value → Option Int) : Prop := ∀ key kl v, keyOf Try.prog 91 key = some kl → f key = some v → ∃ a b c r : Nat, key = arV a b c ∧ v = (r : Int) ∧
  a < L.length + 2 ∧ b < L.length + 2 ∧ c < L.length + 2 ∧ r < L.length + 2 ∧ Bd.den L r = Bd.iteF (Bd.den L a) (Bd.den L b) (Bd.den L c)

theorem KnownOk.grow {L : List Nd} {f : Value → Option Int} (h : KnownOk L f) (N : List Nd) : KnownOk (L ++ N) f := by
  intro key kl v hk hv
  obtain ⟨a, b, c, r, h1, h2, h3, h4, h5, h6, h7⟩ := h key kl v hk hv
  have e : (L ++ N).length = L.length + N.length := List.length_append
  refine ⟨a, b, c, r, h1, h2, by omega, by omega, by omega, by omega, ?_⟩
  rw [Bd.den_append_old _ _ h6, Bd.den_append_old _ _ h3, Bd.den_append_old _ _ h4, Bd.den_append_old _ _ h5]
  exact h7
theorem KnownOk.put {L : List Nd} {f f' : Value → Option Int} (h : KnownOk L f) {a b c r : Nat} (ha : a < L.length + 2) (hb : b < L.length + 2) (hc : c < L.length + 2) (hr : r < L.length + 2) (hd : Bd.den L r = Bd.iteF (Bd.den L a) (Bd.den L b) (Bd.den L c))
    (hu : Upd f (arV a b c) (some (r : Int)) f') : KnownOk L f' := by
  intro key kl v hk hv
  by_cases e : key = arV a b c
  · subst e
    rw [hu.1] at hv
    cases hv
    exact ⟨a, b, c, r, rfl, rfl, ha, hb, hc, hr, hd⟩
  · rw [hu.2 _ e] at hv
    exact h key kl v hk hv

theorem any_sorted (p : Lit × DataW Unit → Bool) : ∀ l : List (Lit × DataW Unit), (l.foldr DataW.insert []).any p = l.any p
  | [] => rfl
  | x :: r => by rw [List.foldr_cons, Maps.any_insert, any_sorted p r, List.any_cons]

/-- A map has no more entries than there are numbers for its keys. -/
theorem MapOf.few {P : Program} {k e : TypeId} {w : World} {b sz : Nat} {f : Value → Option Int} (h : MapOf P k e w b sz f) (K : Keyed P k) (g : Value → Nat) (B : Nat)
    (hg : ∀ key kl, keyOf P k key = some kl → (f key).isSome = true → g key < B) (hi : ∀ key key' kl kl', keyOf P k key = some kl → keyOf P k key' = some kl' → (f key).isSome = true → (f key').isSome = true → g key = g key' → key = key') : sz ≤ B := by
  obtain ⟨D, ⟨es, clock, hb, F, hs, hD⟩, h2, h3⟩ := h
  have hsz : sz = es.toList.length := by rw [← h2, hD]; simp [Maps.size, length_sorted]
  have hkey : ∀ x ∈ es.toList, ∃ kl, keyOf P k x.key = some kl ∧ (f x.key).isSome = true := by
    intro x hx
    obtain ⟨y, hy⟩ := F.reads x hx
    have hk := WideElems.rd_key hy
    refine ⟨y.1, hk, ?_⟩
    rw [← (h3 _ _ hk).1, hD, Maps.has_eq, any_sorted, List.any_eq_true]
    refine ⟨WideElems.rg P k (plainElem P e) x, List.mem_map.2 ⟨x, hx, rfl⟩, ?_⟩
    rw [WideElems.rg_of hy]
    exact WideAt.sameKey_self (K.key hk)
  have hn : es.toList.Pairwise (fun x y => x.key ≠ y.key) := ((MapKept.stamped_iff es clock).1 F.stamped).2.2
  rw [hsz]
  refine Bd.pigeon B es.toList.length (fun i => g ((es.toList.getD i ⟨.bool false, .bool false, 0⟩).key)) ?_ ?_
  · intro i hi
    show g ((es.toList.getD i _).key) < B
    rw [List.getD_eq_getElem?_getD, List.getElem?_eq_getElem hi]
    obtain ⟨kl, h1, h2⟩ := hkey es.toList[i] (List.getElem_mem hi)
    exact hg _ _ h1 h2
  · intro i j hil hjl hij
    have hij' : g ((es.toList.getD i ⟨.bool false, .bool false, 0⟩).key) = g ((es.toList.getD j ⟨.bool false, .bool false, 0⟩).key) := hij
    rw [List.getD_eq_getElem?_getD, List.getElem?_eq_getElem hil, List.getD_eq_getElem?_getD, List.getElem?_eq_getElem hjl] at hij'
    obtain ⟨kl, h1, h2⟩ := hkey es.toList[i] (List.getElem_mem hil)
    obtain ⟨kl', h1', h2'⟩ := hkey es.toList[j] (List.getElem_mem hjl)
    have hsame := hi _ _ _ _ h1 h1' h2 h2' hij'
    rcases Nat.lt_trichotomy i j with h | h | h
    · exact absurd hsame (List.pairwise_iff_getElem.1 hn i j hil hjl h)
    · exact h
    · exact absurd hsame.symm (List.pairwise_iff_getElem.1 hn j i hjl hil h)

/-- A number for three. -/
def arN (B : Nat) : Value → Nat
  | .agg cs => (match cs.toList with | [.int _ a, .int _ b, .int _ c] => (a.toNat * B + b.toNat) * B + c.toNat | _ => 0)
  | _ => 0
theorem arN_arV (B a b c : Nat) : arN B (arV a b c) = (a * B + b) * B + c := by simp [arN, arV]

/-- How much can be known. -/
theorem known_few {w : World} {kb sz : Nat} {f : Value → Option Int} {L : List Nd} (h : MapOf Try.prog 91 3 w kb sz f) (hK : KnownOk L f) (hL : L.length ≤ 1048576) : sz < maxLen := by
  have := h.few kArr (arN (L.length + 2)) ((L.length + 2) * (L.length + 2) * (L.length + 2)) ?_ ?_
  · have h1 : (L.length + 2) * (L.length + 2) * (L.length + 2) ≤ 1048578 * 1048578 * 1048578 := Nat.mul_le_mul (Nat.mul_le_mul (by omega) (by omega)) (by omega)
    unfold maxLen
    omega
  · intro key kl hk hs
    obtain ⟨v, hv⟩ := Option.isSome_iff_exists.1 hs
    obtain ⟨a, b, c, r, rfl, rfl, h1, h2, h3, _⟩ := hK key kl v hk hv
    rw [arN_arV]
    have e1 : (a + 1) * (L.length + 2) ≤ (L.length + 2) * (L.length + 2) := Nat.mul_le_mul_right _ h1
    rw [Nat.add_mul] at e1
    have e2 : (a * (L.length + 2) + b + 1) * (L.length + 2) ≤ (L.length + 2) * (L.length + 2) * (L.length + 2) := Nat.mul_le_mul_right _ (by omega)
    rw [Nat.add_mul] at e2
    omega
  · intro key key' kl kl' hk hk' hs hs' he
    obtain ⟨v, hv⟩ := Option.isSome_iff_exists.1 hs
    obtain ⟨v', hv'⟩ := Option.isSome_iff_exists.1 hs'
    obtain ⟨a, b, c, r, rfl, rfl, h1, h2, h3, _⟩ := hK key kl v hk hv
    obtain ⟨a', b', c', r', rfl, rfl, h1', h2', h3', _⟩ := hK key' kl' v' hk' hv'
    rw [arN_arV, arN_arV] at he
    obtain ⟨e1, e2⟩ := Bd.mul_add_inj h3 h3' he
    obtain ⟨e3, e4⟩ := Bd.mul_add_inj h2 h2' e1
    rw [e2, e3, e4]
end Go.Proofs.Ytffngpdngjfcfaa
namespace Go.Proofs.Ytffngpdngjfcfaa
open Go.RowKit Go.Maps
open Bd (Nd)

theorem boxed (w : World) (o : Obj) : Below w.heap.size w (w.alloc o).drew := ((Below.refl _ _).alloc (Nat.le_refl _) _).drew
theorem boxedN (w : World) (o : Obj) (n : Nat) : Below w.heap.size w ((w.alloc o).drewN n) := by
  have h := (Below.refl w.heap.size w).alloc (Nat.le_refl _) o
  exact ⟨h.os, h.tape, h.output, h.size, h.block⟩
theorem boxed2 (w : World) (o : Obj) : Below w.heap.size w (w.alloc o).drew.drew := ((Below.refl _ _).alloc (Nat.le_refl _) _).drew.drew
theorem int_ne {a b : Nat} (h : a ≠ b) : ((a : Int) == (b : Int)) = false := by rw [beq_eq_false_iff_ne]; omega
theorem int_eq {a b : Nat} (h : a = b) : ((a : Int) == (b : Int)) = true := by rw [h]; simp

set_option maxHeartbeats 1000000 in
theorem ite_one (w : World) (p : Value) (b c : Nat) :
    Calls Try.prog 53 #[p, .agg #[i6 1, i6 b, i6 c]] w fun e w' => e = .returned (i6 b) ∧ Below w.heap.size w w' := by
  go_enter Try.func53, Try.ntmps53
  go_wp2_with fail
  go_quiet (fail)
  go_wp2_with fail
  go_ret
  exact ⟨rfl, boxedN _ _ _⟩

set_option maxHeartbeats 1000000 in
theorem ite_same (w : World) (p : Value) (a b : Nat) (ha : a ≠ 1) :
    Calls Try.prog 53 #[p, .agg #[i6 a, i6 b, i6 b]] w fun e w' => e = .returned (i6 b) ∧ Below w.heap.size w w' := by
  have h1 : ((a : Int) == 1) = false := int_ne ha
  go_enter Try.func53, Try.ntmps53
  go_wp2_with fail
  go_quiet (fail)
  go_wp2_with fail
  go_ret
  exact ⟨rfl, boxedN _ _ _⟩

set_option maxHeartbeats 1000000 in
theorem ite_zero (w : World) (p : Value) (b c : Nat) (hbc : b ≠ c) :
    Calls Try.prog 53 #[p, .agg #[i6 0, i6 b, i6 c]] w fun e w' => e = .returned (i6 c) ∧ Below w.heap.size w w' := by
  have h1 := int_ne hbc
  go_enter Try.func53, Try.ntmps53
  go_wp2_with fail
  go_quiet (fail)
  go_wp2_with fail
  go_ret
  exact ⟨rfl, boxedN _ _ _⟩

set_option maxHeartbeats 1000000 in
theorem ite_self (w : World) (p : Value) (a : Nat) (ha : a ≠ 1) (ha0 : a ≠ 0) :
    Calls Try.prog 53 #[p, .agg #[i6 a, i6 1, i6 0]] w fun e w' => e = .returned (i6 a) ∧ Below w.heap.size w w' := by
  have h1 : ((a : Int) == 1) = false := int_ne ha
  have h0 : ((a : Int) == 0) = false := int_ne ha0
  go_enter Try.func53, Try.ntmps53
  go_wp2_with fail
  go_quiet (fail)
  go_wp2_with fail
  go_ret
  exact ⟨rfl, boxedN _ _ _⟩

/-- What ite leaves. -/
structure IteGot {bits M : Nat} (A : Bd.Fam bits M) (w : World) (y : Lay) (s : St) (kb : Nat) (w' : World) (r : Nat) (f : Bd.Fn) : Prop where
  ex : ∃ N y', Tab w' y' { s with L := s.L ++ N } ∧ Bd.Within A (s.L ++ N) ∧ r < (s.L ++ N).length + 2 ∧ Bd.den (s.L ++ N) r = f ∧ Moves (fun k => k = kb) w y w' y' ∧
    ∃ sz kf, MapOf Try.prog 91 3 w' kb sz kf ∧ KnownOk (s.L ++ N) kf

theorem IteGot.same {bits M : Nat} {A : Bd.Fam bits M} {w w' : World} {y : Lay} {s : St} {kb r : Nat} {f : Bd.Fn} (hT : Tab w y s) (hW : Bd.Within A s.L) {sz : Nat} {kf : Value → Option Int} (hM : MapOf Try.prog 91 3 w kb sz kf) (hK : KnownOk s.L kf)
    (hr : r < s.L.length + 2) (hf : Bd.den s.L r = f) (hb : Below w.heap.size w w') : IteGot A w y s kb w' r f := by
  refine ⟨[], y, ?_, ?_, ?_, ?_, moves_below y hb, sz, kf, hM.same (hb.block _ hM.lt), ?_⟩
  · rw [List.append_nil]; exact hT.below hb
  · rw [List.append_nil]; exact hW
  · rw [List.append_nil]; exact hr
  · rw [List.append_nil]; exact hf
  · rw [List.append_nil]; exact hK

set_option maxHeartbeats 2000000 in
theorem ite_hit {M : Nat} {w : World} {y : Lay} {s : St} (A : Bd.Fam s.bits M) (hT : Tab w y s) (hW : Bd.Within A s.L) (sb room kb : Nat) (hS : StepAt w sb y.tb room kb) (sz : Nat) (kf : Value → Option Int) (hM : MapOf Try.prog 91 3 w kb sz kf) (hK : KnownOk s.L kf)
    (a b c : Nat) (ha : a < s.L.length + 2) (hb : b < s.L.length + 2) (hc : c < s.L.length + 2) (ha2 : 2 ≤ a) (hbc : b ≠ c) (hq : ¬ (b = 1 ∧ c = 0)) (v : Int) (hv : kf (arV a b c) = some v) :
    Calls Try.prog 53 #[.pointer (some ⟨sb, 0, none⟩), .agg #[i6 a, i6 b, i6 c]] w fun e w' => ∃ r, e = .returned (i6 r) ∧ IteGot A w y s kb w' r (Bd.iteF (Bd.den s.L a) (Bd.den s.L b) (Bd.den s.L c)) := by
  have hsm := hT.small.1
  obtain ⟨kl, hkl⟩ := key_arr (a := a) (b := b) (c := c) (by omega) (by omega) (by omega)
  obtain ⟨a', b', c', r, e1, rfl, h1, h2, h3, h4, h5⟩ := hK _ kl v hkl hv
  obtain ⟨rfl, rfl, rfl⟩ := arV_inj e1
  have HR : Hid (∀ w', Below w.heap.size w w' → IteGot A w y s kb w' r (Bd.iteF (Bd.den s.L a) (Bd.den s.L b) (Bd.den s.L c))) := fun w' hb => IteGot.same hT hW hM hK h4 h5 hb
  have hlook : ∀ n o, (Instr.lookup 140 (.map (some kb)) (.agg #[.int .i64 a, .int .i64 b, .int .i64 c]) true).run Try.prog ((w.alloc o).drewN n) = .ok (.tuple #[.int .i64 r, .bool true]) ((w.alloc o).drewN n) := by
    intro n o
    have := MapOf.look (w := (w.alloc o).drewN n) (hM.same ((boxedN w o n).block _ hM.lt)) kArr Try.underlying140 Try.underlying3 (zero_int _) hkl
    have hv' : kf (.agg #[i6 a, i6 b, i6 c]) = some (r : Int) := hv
    rw [hv'] at this
    exact this
  have s2 : ∀ n o, ((w.alloc o).drewN n).cell? ⟨sb, 2, none⟩ = some (.map (some kb)) := by
    intro n o
    have h1 : ((w.alloc o).drewN n).heap[sb]? = w.heap[sb]? := (boxedN w o n).block sb (block_lt hS)
    rw [World.cell?_of_block h1, cell_at hS]; rfl
  have a1 : ((a : Int) == 1) = false := int_ne (b := 1) (by omega)
  have a0 : ((a : Int) == 0) = false := int_ne (b := 0) (by omega)
  have bc := int_ne hbc
  clear hT hW hM hK hS hv h1 h2 h3 h4 h5 e1 hkl ha hb hc
  by_cases hb1 : b = 1
  · have hc0 : ((c : Int) == 0) = false := int_ne (b := 0) (fun e => hq ⟨hb1, e⟩)
    have hb1' : ((b : Int) == 1) = true := int_eq (b := 1) hb1
    clear hq hb1 hbc
    go_enter Try.func53, Try.ntmps53
    go_wp2_with fail
    go_quiet (fail)
    go_wp2_with fail
    go_quiet (fail)
    go_wp2_with fail
    go_ret
    exact ⟨r, rfl, HR.out _ (by first | exact boxedN _ _ _ | (rw [World.drewN_drewN]; exact boxedN _ _ _))⟩
  · have hb1' : ((b : Int) == 1) = false := int_ne (b := 1) hb1
    clear hq hb1 hbc
    go_enter Try.func53, Try.ntmps53
    go_wp2_with fail
    go_quiet (fail)
    go_wp2_with fail
    go_quiet (fail)
    go_wp2_with fail
    go_ret
    exact ⟨r, rfl, HR.out _ (by first | exact boxedN _ _ _ | (rw [World.drewN_drewN]; exact boxedN _ _ _))⟩
end Go.Proofs.Ytffngpdngjfcfaa
namespace Go.Proofs.Ytffngpdngjfcfaa
open Go.RowKit Go.Maps
open Bd (Nd)

theorem Moves.not_own {X : Nat → Prop} {w w' : World} {y y' : Lay} (h : Moves X w y w' y') {k : Nat} (hk : k < w.heap.size) (hn : ¬ y.own k) : ¬ y'.own k := by
  intro ho
  rcases h.own k ho with h1 | h1
  · exact hn h1
  · omega

def iteSpec (n : Nat) : Prop := ∀ {M : Nat} (s : St) (A : Bd.Fam s.bits M) (w : World) (y : Lay) (sb room kb sz : Nat) (kf : Value → Option Int) (a b c kk : Nat), Tab w y s → Bd.Within A s.L → StepAt w sb y.tb room kb → ¬ y.own sb → ¬ y.own kb →
  s.bits * M ≤ room → room ≤ 1073741824 → s.bits * M ≤ 1048576 → MapOf Try.prog 91 3 w kb sz kf → KnownOk s.L kf → a < s.L.length + 2 → b < s.L.length + 2 → c < s.L.length + 2 →
  kk ≤ Bd.bitOf s.L a → kk ≤ Bd.bitOf s.L b → kk ≤ Bd.bitOf s.L c → A.F kk (Bd.iteF (Bd.den s.L a) (Bd.den s.L b) (Bd.den s.L c)) → 128 - kk ≤ n →
  Calls Try.prog 53 #[.pointer (some ⟨sb, 0, none⟩), .agg #[i6 a, i6 b, i6 c]] w fun e w' => ∃ r, e = .returned (i6 r) ∧ IteGot A w y s kb w' r (Bd.iteF (Bd.den s.L a) (Bd.den s.L b) (Bd.den s.L c))

/-- The blocks that a call of ite lays for its own use. -/
structure Three (w : World) (B : Nat) (x0 x1 x2 : Value × Value × Value) : Prop where
  b0 : w.heap[B]? = some (.cells #[x0.1, x0.2.1, x0.2.2] 91 (0, 0))
  b1 : w.heap[B + 1]? = some (.cells #[x1.1, x1.2.1, x1.2.2] 91 (0, 0))
  b2 : w.heap[B + 1 + 1]? = some (.cells #[x2.1, x2.2.1, x2.2.2] 91 (0, 0))

theorem Three.moves {w w' : World} {B : Nat} {x0 x1 x2 : Value × Value × Value} (h : Three w B x0 x1 x2) {X : Nat → Prop} {y y' : Lay} (hm : Moves X w y w' y') (hy : ∀ k, y.own k → k < B ∨ B + 3 ≤ k) (hX : ∀ k, X k → k < B) : Three w' B x0 x1 x2 := by
  have l0 := block_lt h.b0
  have l1 := block_lt h.b1
  have l2 := block_lt h.b2
  have key : ∀ j, j < 3 → w'.heap[B + j]? = w.heap[B + j]? := by
    intro j hj
    refine hm.block _ ?_ (fun ho => ?_) (fun hx => ?_)
    · have : j = 0 ∨ j = 1 ∨ j = 2 := by omega
      rcases this with rfl | rfl | rfl <;> omega
    · rcases hy _ ho with h | h <;> omega
    · have := hX _ hx; omega
  exact ⟨(key 0 (by omega)).trans h.b0, (key 1 (by omega)).trans h.b1, (key 2 (by omega)).trans h.b2⟩
theorem own_between {_w0 w w' : World} {X : Nat → Prop} {y y' : Lay} (hm : Moves X w y w' y') {B : Nat} (hB : B + 3 ≤ w.heap.size) (hy : ∀ k, y.own k → k < B ∨ B + 3 ≤ k) : ∀ k, y'.own k → k < B ∨ B + 3 ≤ k := by
  intro k hk
  rcases hm.own k hk with h | h
  · exact hy k h
  · exact Or.inr (by omega)

abbrev v3 (a b c : Nat) : Value × Value × Value := (i6 a, i6 b, i6 c)

theorem ite_three {n M : Nat} (ih : iteSpec n) {w : World} {y : Lay} {s : St} (A : Bd.Fam s.bits M) (hT : Tab w y s) (hW : Bd.Within A s.L) (sb room kb : Nat) (hS : StepAt w sb y.tb room kb) (hns : ¬ y.own sb) (hnk : ¬ y.own kb) (hroom : s.bits * M ≤ room) (hr3 : room ≤ 1073741824) (hbM : s.bits * M ≤ 1048576)
    (sz : Nat) (kf : Value → Option Int) (hM : MapOf Try.prog 91 3 w kb sz kf) (hK : KnownOk s.L kf) (a b c kk k : Nat) (ha : a < s.L.length + 2) (hb : b < s.L.length + 2) (hc : c < s.L.length + 2)
    (hkk : kk ≤ k) (hka : k ≤ Bd.bitOf s.L a) (hkb : k ≤ Bd.bitOf s.L b) (hkc : k ≤ Bd.bitOf s.L c) (hkbits : k < s.bits) (hF : A.F kk (Bd.iteF (Bd.den s.L a) (Bd.den s.L b) (Bd.den s.L c))) (hn : 128 - kk ≤ n + 1)
    (W : World) (hBW : Below w.heap.size w W) (h3 : Three W w.heap.size (v3 a b c) (v3 (Bd.loOf s.L a k) (Bd.loOf s.L b k) (Bd.loOf s.L c k)) (v3 (Bd.hiOf s.L a k) (Bd.hiOf s.L b k) (Bd.hiOf s.L c k))) :
    Calls Try.prog 53 #[.pointer (some ⟨sb, 0, none⟩), .agg #[i6 (Bd.loOf s.L a k), i6 (Bd.loOf s.L b k), i6 (Bd.loOf s.L c k)]] W fun e w1 => ∃ r1, e = .returned (i6 r1) ∧ Three w1 w.heap.size (v3 a b c) (v3 (Bd.loOf s.L a k) (Bd.loOf s.L b k) (Bd.loOf s.L c k)) (v3 (Bd.hiOf s.L a k) (Bd.hiOf s.L b k) (Bd.hiOf s.L c k)) ∧
      Hid (Calls Try.prog 53 #[.pointer (some ⟨sb, 0, none⟩), .agg #[i6 (Bd.hiOf s.L a k), i6 (Bd.hiOf s.L b k), i6 (Bd.hiOf s.L c k)]] w1 fun e w2 => ∃ r2, e = .returned (i6 r2) ∧ Three w2 w.heap.size (v3 a b c) (v3 (Bd.loOf s.L a k) (Bd.loOf s.L b k) (Bd.loOf s.L c k)) (v3 (Bd.hiOf s.L a k) (Bd.hiOf s.L b k) (Bd.hiOf s.L c k)) ∧
        Hid (Calls Try.prog 86 #[.pointer (some ⟨sb, 0, none⟩), i6 k, i6 r1, i6 r2] w2 fun e w3 => ∃ r, e = .returned (i6 r) ∧ Three w3 w.heap.size (v3 a b c) (v3 (Bd.loOf s.L a k) (Bd.loOf s.L b k) (Bd.loOf s.L c k)) (v3 (Bd.hiOf s.L a k) (Bd.hiOf s.L b k) (Bd.hiOf s.L c k)) ∧
          w3.cell? ⟨sb, 2, none⟩ = some (.map (some kb)) ∧ ∃ w4, (Instr.mapUpdate 140 (.map (some kb)) (.agg #[.int .i64 a, .int .i64 b, .int .i64 c]) (.int .i64 r)).run Try.prog w3.drew = .ok () w4 ∧
            Hid (IteGot A w y s kb w4 r (Bd.iteF (Bd.den s.L a) (Bd.den s.L b) (Bd.den s.L c))))) := by
  have hf128 := hT.okay.few
  have hk128 : k < 128 := by omega
  have lsb := block_lt hS
  have lkb := hM.lt
  have hTW := hT.below hBW
  have l2 := block_lt h3.b2
  have hy3 : ∀ j, y.own j → j < w.heap.size ∨ w.heap.size + 3 ≤ j := fun j hj => Or.inl (hT.lt hj)
  have hX3 : ∀ j, j = kb → j < w.heap.size := fun j hj => by omega
  obtain ⟨a1, a2⟩ := Bd.lo_lt hT.okay ha hk128
  obtain ⟨b1, b2⟩ := Bd.lo_lt hT.okay hb hk128
  obtain ⟨c1, c2⟩ := Bd.lo_lt hT.okay hc hk128
  obtain ⟨a3, a4⟩ := Bd.bit_half hT.okay ha hk128 hka
  obtain ⟨b3, b4⟩ := Bd.bit_half hT.okay hb hk128 hkb
  obtain ⟨c3, c4⟩ := Bd.bit_half hT.okay hc hk128 hkc
  obtain ⟨a5, a6⟩ := Bd.den_half hT.okay ha hk128 hka
  obtain ⟨b5, b6⟩ := Bd.den_half hT.okay hb hk128 hkb
  obtain ⟨c5, c6⟩ := Bd.den_half hT.okay hc hk128 hkc
  have hFrom : Bd.From k (Bd.iteF (Bd.den s.L a) (Bd.den s.L b) (Bd.den s.L c)) := Bd.from_iteF ((Bd.from_den hT.okay a ha).mono hka) ((Bd.from_den hT.okay b hb).mono hkb) ((Bd.from_den hT.okay c hc).mono hkc)
  have hFk := A.skip hF hFrom hkk (by omega)
  have hF0 := A.go k _ false hkbits hFk
  have hF1 := A.go k _ true hkbits hFk
  rw [Bd.cof_iteF, ← a5, ← b5, ← c5] at hF0
  rw [Bd.cof_iteF, ← a6, ← b6, ← c6] at hF1
  have hSW : StepAt W sb y.tb room kb := (hBW.block sb lsb).trans hS
  refine (ih s A W y sb room kb sz kf _ _ _ (k + 1) hTW hW hSW hns hnk hroom hr3 hbM (hM.same (hBW.block _ lkb)) hK a1 b1 c1 a3 b3 c3 hF0 (by omega)).mono ?_
  rintro e w1 ⟨r1, rfl, ⟨N1, y1, t1, wi1, hr1, d1, m1, sz1, kf1, k1, ko1⟩⟩
  have h31 := h3.moves m1 hy3 hX3
  refine ⟨r1, rfl, h31, ?_⟩
  have l1len : (s.L ++ N1).length = s.L.length + N1.length := List.length_append
  have hns1 := m1.not_own (Nat.lt_of_lt_of_le lsb hBW.size) hns
  have hnk1 := m1.not_own (Nat.lt_of_lt_of_le lkb hBW.size) hnk
  have hS1 : StepAt w1 sb y1.tb room kb := by
    rw [m1.tb]
    refine (m1.block sb (Nat.lt_of_lt_of_le lsb hBW.size) hns (fun e => ?_)).trans hSW
    subst e
    obtain ⟨es, cc, hm⟩ := map_block hM
    rw [hS] at hm
    cases hm
  have hF1' : A.F (k + 1) (Bd.iteF (Bd.den (s.L ++ N1) (Bd.hiOf s.L a k)) (Bd.den (s.L ++ N1) (Bd.hiOf s.L b k)) (Bd.den (s.L ++ N1) (Bd.hiOf s.L c k))) := by
    rw [Bd.den_append_old _ _ a2, Bd.den_append_old _ _ b2, Bd.den_append_old _ _ c2]; exact hF1
  refine (ih { s with L := s.L ++ N1 } A w1 y1 sb room kb sz1 kf1 (Bd.hiOf s.L a k) (Bd.hiOf s.L b k) (Bd.hiOf s.L c k) (k + 1) t1 wi1 hS1 hns1 hnk1 hroom hr3 hbM k1 ko1 (by show _ < (s.L ++ N1).length + 2; omega) (by show _ < (s.L ++ N1).length + 2; omega) (by show _ < (s.L ++ N1).length + 2; omega)
    (by show _ ≤ Bd.bitOf (s.L ++ N1) _; rw [Bd.bitOf_old _ _ a2]; exact a4) (by show _ ≤ Bd.bitOf (s.L ++ N1) _; rw [Bd.bitOf_old _ _ b2]; exact b4) (by show _ ≤ Bd.bitOf (s.L ++ N1) _; rw [Bd.bitOf_old _ _ c2]; exact c4) hF1' (by omega)).mono ?_
  rintro e w2 ⟨r2, rfl, ⟨N2, y2, t2, wi2, hr2, d2, m2, sz2, kf2, k2, ko2⟩⟩
  have t2' : Tab w2 y2 { s with L := s.L ++ N1 ++ N2 } := t2
  have wi2' : Bd.Within A (s.L ++ N1 ++ N2) := wi2
  have d2' : Bd.den (s.L ++ N1 ++ N2) r2 = _ := d2
  have hr2' : r2 < (s.L ++ N1 ++ N2).length + 2 := hr2
  have ko2' : KnownOk (s.L ++ N1 ++ N2) kf2 := ko2
  clear t2 wi2 d2 hr2 ko2
  have hX1 : w.heap.size + 3 ≤ w1.heap.size := by have := m1.size; omega
  have h32 := h31.moves m2 (own_between (_w0 := w) m1 (by omega) hy3) hX3
  refine ⟨r2, rfl, h32, ?_⟩
  have lW1 : sb < w1.heap.size := by have := m1.size; have := hBW.size; omega
  have lK1 : kb < w1.heap.size := by have := m1.size; have := hBW.size; omega
  have hns2 := m2.not_own lW1 hns1
  have hnk2 := m2.not_own lK1 hnk1
  have hS2 : StepAt w2 sb y2.tb room kb := by
    rw [m2.tb]
    refine (m2.block sb lW1 hns1 (fun e => ?_)).trans hS1
    subst e
    obtain ⟨es, cc, hm⟩ := map_block hM
    rw [hS] at hm
    cases hm
  have l2len : (s.L ++ N1 ++ N2).length = s.L.length + N1.length + N2.length := by rw [List.length_append, List.length_append]
  have dr1 : Bd.den (s.L ++ N1 ++ N2) r1 = Bd.cof (Bd.iteF (Bd.den s.L a) (Bd.den s.L b) (Bd.den s.L c)) k false := by
    rw [Bd.den_append_old _ _ hr1, d1, Bd.cof_iteF, a5, b5, c5]
  have dr2 : Bd.den (s.L ++ N1 ++ N2) r2 = Bd.cof (Bd.iteF (Bd.den s.L a) (Bd.den s.L b) (Bd.den s.L c)) k true := by
    rw [d2', Bd.cof_iteF, ← a6, ← b6, ← c6]
    show Bd.iteF (Bd.den (s.L ++ N1) _) (Bd.den (s.L ++ N1) _) (Bd.den (s.L ++ N1) _) = _
    rw [Bd.den_append_old _ _ a2, Bd.den_append_old _ _ b2, Bd.den_append_old _ _ c2]
  have hr1' : r1 < (s.L ++ N1 ++ N2).length + 2 := by omega
  have hmux : Bd.mux k (Bd.den (s.L ++ N1 ++ N2) r1) (Bd.den (s.L ++ N1 ++ N2) r2) = Bd.iteF (Bd.den s.L a) (Bd.den s.L b) (Bd.den s.L c) := by rw [dr1, dr2, Bd.mux_cof]
  refine (node_any (s := { s with L := s.L ++ N1 ++ N2 }) A t2' wi2' sb room kb hS2 hns2 hroom hr3 k r1 r2 hkbits hr1' hr2' ?_ ?_ ?_).mono ?_
  · have := Bd.bit_ge t2'.okay (r := r1) (k := k + 1) hr1' (by show Bd.From (k + 1) (Bd.den (s.L ++ N1 ++ N2) r1); rw [dr1]; exact Bd.from_cof hFrom _) (by omega)
    exact this
  · have := Bd.bit_ge t2'.okay (r := r2) (k := k + 1) hr2' (by show Bd.From (k + 1) (Bd.den (s.L ++ N1 ++ N2) r2); rw [dr2]; exact Bd.from_cof hFrom _) (by omega)
    exact this
  · show A.F k (Bd.mux k (Bd.den (s.L ++ N1 ++ N2) r1) (Bd.den (s.L ++ N1 ++ N2) r2))
    rw [hmux]; exact hFk
  · rintro e w3 ⟨r, rfl, ⟨N3, y3, t3, wi3, hr3', d3, m3⟩⟩
    have t3' : Tab w3 y3 { s with L := s.L ++ N1 ++ N2 ++ N3 } := t3
    have wi3' : Bd.Within A (s.L ++ N1 ++ N2 ++ N3) := wi3
    have hr3'' : r < (s.L ++ N1 ++ N2 ++ N3).length + 2 := hr3'
    have d3' : Bd.den (s.L ++ N1 ++ N2 ++ N3) r = Bd.iteF (Bd.den s.L a) (Bd.den s.L b) (Bd.den s.L c) := by rw [← hmux]; exact d3
    clear t3 wi3 hr3' d3
    have lW2 : sb < w2.heap.size := by have := m2.size; omega
    have lK2 : kb < w2.heap.size := by have := m2.size; omega
    have hX2 : w.heap.size + 3 ≤ w2.heap.size := by have := m2.size; omega
    have hown2 := own_between (_w0 := w) m2 (by omega) (own_between (_w0 := w) m1 (by omega) hy3)
    have h33 := h32.moves m3 hown2 (fun j hj => hj.elim)
    refine ⟨r, rfl, h33, ?_, ?_⟩
    · have h := m3.block sb lW2 hns2 (fun h => h)
      rw [World.cell?_of_block h, cell_at hS2]; rfl
    · have l3len : (s.L ++ N1 ++ N2 ++ N3).length = (s.L ++ N1 ++ N2).length + N3.length := List.length_append
      have hfew := wi3'.few t3'.okay
      have hk3 : MapOf Try.prog 91 3 w3 kb sz2 kf2 := k2.same (m3.block kb lK2 hnk2 (fun h => h))
      have ko3 : KnownOk (s.L ++ N1 ++ N2 ++ N3) kf2 := ko2'.grow N3
      obtain ⟨kl, hkl⟩ := key_arr (a := a) (b := b) (c := c) (by have := t3'.small.1; have : (s.L ++ N1 ++ N2 ++ N3).length ≤ 1073741824 := this; omega) (by have := t3'.small.1; have : (s.L ++ N1 ++ N2 ++ N3).length ≤ 1073741824 := this; omega) (by have := t3'.small.1; have : (s.L ++ N1 ++ N2 ++ N3).length ≤ 1073741824 := this; omega)
      obtain ⟨w4, hrun, hput, hg⟩ := MapOf.put_run (w := w3.drew) (hk3.same rfl) kArr Try.underlying140 Try.underlying3 (known_few hk3 ko3 (by omega)) hkl (c := (r : Int)) (wf64 (by have := t3'.small.1; have : (s.L ++ N1 ++ N2 ++ N3).length ≤ 1073741824 := this; omega))
      refine ⟨w4, hrun, ?_⟩
      obtain ⟨kf', hu⟩ := upd_exists kf2 (arV a b c) (some (r : Int))
      have hm4 := hput kf' hu
      have lK3 : kb < w3.heap.size := by have := m3.size; omega
      have hnk3 := m3.not_own lK2 hnk2
      have m4 : Moves (fun k => k = kb) w3 y3 w4 y3 := ⟨rfl, fun _ h => Or.inl h, hg.os, hg.tape, hg.output, hg.size, fun j hj _ hx => hg.block j hj (fun e => hx (by cases e; rfl))⟩
      have t4 : Tab w4 y3 { s with L := s.L ++ N1 ++ N2 ++ N3 } := t3'.same fun j hj => hg.block j (t3'.lt hj) (fun e => by cases e; exact hnk3 hj)
      have M1 : Moves (fun k => k = kb) w y W y := moves_below y hBW
      have MA := (M1.trans m1).trans (m2.trans ((m3.more (fun _ h => h.elim)).trans m4))
      refine ⟨N1 ++ (N2 ++ N3), y3, ?_, ?_, ?_, ?_, MA, _, kf', hm4, ?_⟩
      · rw [← List.append_assoc, ← List.append_assoc]; exact t4
      · rw [← List.append_assoc, ← List.append_assoc]; exact wi3'
      · rw [← List.append_assoc, ← List.append_assoc]; exact hr3''
      · rw [← List.append_assoc, ← List.append_assoc]; exact d3'
      · rw [← List.append_assoc, ← List.append_assoc]
        refine ko3.put (by omega) (by omega) (by omega) hr3'' ?_ hu
        have e3 : ∀ x, x < s.L.length + 2 → Bd.den (s.L ++ N1 ++ N2 ++ N3) x = Bd.den s.L x := by
          intro x hx
          rw [Bd.den_append_old _ _ (by omega), Bd.den_append_old _ _ (by omega), Bd.den_append_old _ _ hx]
        rw [d3', e3 a ha, e3 b hb, e3 c hc]
end Go.Proofs.Ytffngpdngjfcfaa
