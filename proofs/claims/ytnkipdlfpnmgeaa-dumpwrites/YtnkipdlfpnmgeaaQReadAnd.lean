/-
  Both tables beside each other, exactly: one is too small for a function just where the other one is.
  The document's marks: those of the nodes that told functions need; how many there are.
  The document's tell.
  The document's mark: the nodes of a function, in a row of marks.
  The document's table: bit, half.
-/
import Derived.Test.YtnkipdlfpnmgeaaBPutAnd
import Derived.Laws.AppendOwnNone
import Derived.Test.YtnkipdlfpnmgeaaBMathAnd
namespace Go.Proofs.Ytnkipdlfpnmgeaa
open Go.RowKit Go.Maps
open Bd (Nd)

/-- The first bit of a function; of an end, one behind all. -/
def qbit (bits : Nat) (L : List Nd) (n : Nat) : Nat := if n < 2 then bits else Bd.bitOf L n
theorem qbit_eq {bits : Nat} {L : List Nd} (h : Bd.Okay bits L) {n k : Nat} (hk : k < bits) : (qbit bits L n = k) ↔ (Bd.bitOf L n = k) := by
  have := h.few
  unfold qbit
  split
  · rename_i h2
    rw [Bd.bitOf_end _ h2]
    omega
  · exact Iff.rfl

set_option maxHeartbeats 1000000 in
theorem qbit_any {w : World} {y : QLay} {s : QSt} (hT : QTab w y s) (n : Nat) (hn : n < s.L.length + 2) :
    Calls Try.prog 78 #[.pointer (some ⟨y.tb, 0, none⟩), i6 n] w fun e w' => e = .returned (i6 (qbit s.bits s.L n)) ∧ w' = w := by
  have hsm := hT.small.1
  rcases Nat.lt_or_ge n 2 with h2 | h2
  · have h2I : (n : Int) < 2 := by omega
    have c0 := hT.cell0
    unfold qbit
    rw [if_pos h2]
    clear hT
    go_enter Try.func78, Try.ntmps78
    go_wp2
    go_ret
    exact ⟨rfl, rfl⟩
  · unfold qbit
    rw [if_neg (by omega)]
    obtain ⟨i, rfl⟩ : ∃ i, n = i + 2 := ⟨n - 2, by omega⟩
    have hx : s.L[i]? = some s.L[i] := List.getElem?_eq_getElem (by omega)
    rw [Bd.bitOf_at hx]
    have c2 := hT.cell2
    obtain ⟨g, cap, hv, h0, _, _⟩ := hT.node hx
    rw [hv] at c2
    generalize s.L[i] = x at *
    generalize s.L.length = len at *
    have e1 : ((i + 2 : Nat) : Int) = (i : Int) + 2 := by omega
    simp only [i6, e1]
    have hl : ¬ ((i : Int) + 2 < 2) := by omega
    have hI : (i : Int) < (len : Int) := by omega
    clear hT
    go_enter Try.func78, Try.ntmps78
    go_wp2
    go_ret
    exact ⟨rfl, rfl⟩

def halfOf (L : List Nd) (n k : Nat) (b : Bool) : Nat := if b = true then Bd.hiOf L n k else Bd.loOf L n k

set_option maxHeartbeats 1000000 in
theorem qhalf_any {w : World} {y : QLay} {s : QSt} (hT : QTab w y s) (n k : Nat) (b : Bool) (hn : n < s.L.length + 2) (hk : k < s.bits) :
    Calls Try.prog 79 #[.pointer (some ⟨y.tb, 0, none⟩), i6 n, i6 k, .bool b] w fun e w' => e = .returned (i6 (halfOf s.L n k b)) ∧ w' = w := by
  have hsm := hT.small.1
  have hf := hT.okay.few
  by_cases hb : Bd.bitOf s.L n = k
  · have h2 := Bd.half_at (by omega) hb
    have hq := (qbit_eq hT.okay hk).2 hb
    obtain ⟨i, rfl⟩ : ∃ i, n = i + 2 := ⟨n - 2, by omega⟩
    have hx : s.L[i]? = some s.L[i] := List.getElem?_eq_getElem (by omega)
    have hlo : Bd.loOf s.L (i + 2) k = s.L[i].2.1 := by unfold Bd.loOf; rw [if_pos hb, List.getD_eq_getElem?_getD]; simp only [Nat.add_sub_cancel, hx, Option.getD_some]
    have hhi : Bd.hiOf s.L (i + 2) k = s.L[i].2.2 := by unfold Bd.hiOf; rw [if_pos hb, List.getD_eq_getElem?_getD]; simp only [Nat.add_sub_cancel, hx, Option.getD_some]
    have hbit := qbit_any hT (i + 2) hn
    unfold halfOf
    rw [hlo, hhi]
    rw [hq] at hbit
    clear hlo hhi hq hb
    have c2 := hT.cell2
    obtain ⟨g, cap, hv, h0, h1, h3⟩ := hT.node hx
    rw [hv] at c2
    generalize s.L[i] = x at *
    generalize s.L.length = len at *
    have e1 : ((i + 2 : Nat) : Int) = (i : Int) + 2 := by omega
    simp only [i6, e1] at hbit ⊢
    have hI : (i : Int) < (len : Int) := by omega
    have HB := keep hbit
    clear hbit hT
    cases b
    all_goals
      go_enter Try.func79, Try.ntmps79
      go_wp2_with (go_at_call 78; refine HB.out.mono ?_; rintro e w' ⟨rfl, rfl⟩)
      go_ret
      exact ⟨rfl, rfl⟩
  · have hlo : Bd.loOf s.L n k = n := by unfold Bd.loOf; rw [if_neg hb]
    have hhi : Bd.hiOf s.L n k = n := by unfold Bd.hiOf; rw [if_neg hb]
    have hq : qbit s.bits s.L n ≠ k := fun h => hb ((qbit_eq hT.okay hk).1 h)
    have HB := keep (qbit_any hT n hn)
    have hh : halfOf s.L n k b = n := by unfold halfOf; rw [hlo, hhi]; split <;> rfl
    rw [hh]
    have hne : ((qbit s.bits s.L n : Int) != (k : Int)) = true := by rw [bne_iff_ne]; omega
    clear hT hlo hhi hq hh hb
    generalize qbit s.bits s.L n = m at *
    go_enter Try.func79, Try.ntmps79
    go_wp2_with (go_at_call 78; refine HB.out.mono ?_; rintro e w' ⟨rfl, rfl⟩)
    go_ret
    exact ⟨rfl, rfl⟩
end Go.Proofs.Ytnkipdlfpnmgeaa
namespace Go.Proofs.Ytnkipdlfpnmgeaa
open Go.RowKit Go.Maps
open Bd (Nd)

def markF (L : List Nd) : Nat → Nat → List Bool → List Bool
  | 0, _, U => U
  | f + 1, a, U => if a < 2 then U else if U.getD (a - 2) false = true then U else markF L f (L.getD (a - 2) (0, 0, 0)).2.2 (markF L f (L.getD (a - 2) (0, 0, 0)).2.1 (U.set (a - 2) true))
theorem markF_succ (L : List Nd) (f a : Nat) (U : List Bool) : markF L (f + 1) a U = if a < 2 then U else if U.getD (a - 2) false = true then U else markF L f (L.getD (a - 2) (0, 0, 0)).2.2 (markF L f (L.getD (a - 2) (0, 0, 0)).2.1 (U.set (a - 2) true)) := rfl
theorem markF_length (L : List Nd) : ∀ f a U, (markF L f a U).length = U.length := by
  intro f
  induction f with
  | zero => intro a U; rfl
  | succ f ih =>
    intro a U
    rw [markF_succ]
    split
    · rfl
    · split
      · rfl
      · rw [ih, ih, List.length_set]

theorem boos_set (U : List Bool) (i : Nat) (b : Bool) : (boos U).set i (.bool b) = boos (U.set i b) := by simp [boos, List.map_set]

/-- What mark leaves: the marks, in their place; all else is as it was. -/
structure Marked (w : World) (g cap n : Nat) (U : List Bool) (w' : World) : Prop where
  row : w'.ownsRow 0 4 1 (.slice (some ⟨g, 0, none⟩) n cap) n (boos U)
  os : w'.os = w.os
  tape : w'.tape = w.tape
  output : w'.output = w.output
  size : w'.heap.size = w.heap.size
  block : ∀ k, k ≠ g → w'.heap[k]? = w.heap[k]?

theorem Marked.trans {w w1 w2 : World} {g cap n : Nat} {U V : List Bool} (h : Marked w g cap n U w1) (h' : Marked w1 g cap n V w2) : Marked w g cap n V w2 :=
  ⟨h'.row, h'.os.trans h.os, h'.tape.trans h.tape, h'.output.trans h.output, h'.size.trans h.size, fun k hk => (h'.block k hk).trans (h.block k hk)⟩

set_option maxHeartbeats 2000000 in
theorem mark_any {y : QLay} {s : QSt} (g cap : Nat) (hg : ¬ y.own g) : ∀ f a, a < f + 2 → a < s.L.length + 2 → ∀ (w : World) (U : List Bool), QTab w y s → U.length = s.L.length → w.ownsRow 0 4 1 (.slice (some ⟨g, 0, none⟩) s.L.length cap) s.L.length (boos U) →
    Calls Try.prog 75 #[.pointer (some ⟨y.tb, 0, none⟩), i6 a, .slice (some ⟨g, 0, none⟩) s.L.length cap] w fun e w' => e = .returned (.tuple #[]) ∧ Marked w g cap s.L.length (markF s.L (f + 1) a U) w' := by
  intro f
  induction f with
  | zero =>
    intro a ha hal w U hT hU hrow
    have hm : markF s.L (0 + 1) a U = U := by rw [markF_succ, if_pos (by omega)]
    rw [hm]
    have HR : Hid (Marked w g cap s.L.length U w) := ⟨hrow, rfl, rfl, rfl, rfl, fun _ _ => rfl⟩
    have haI : (a : Int) < 2 := by omega
    clear hT hrow
    go_enter Try.func75, Try.ntmps75
    go_wp2
    exact bodyPost_ret (v := .tuple #[]) (by simp [results, Try.results75, go_sem]) rfl ⟨rfl, HR.out⟩
  | succ f ih =>
    intro a ha hal w U hT hU hrow
    by_cases ha2 : a < 2
    · have hm : markF s.L (f + 1 + 1) a U = U := by rw [markF_succ, if_pos (by omega)]
      rw [hm]
      have HR : Hid (Marked w g cap s.L.length U w) := ⟨hrow, rfl, rfl, rfl, rfl, fun _ _ => rfl⟩
      have haI : (a : Int) < 2 := by omega
      clear hT hrow ih
      go_enter Try.func75, Try.ntmps75
      go_wp2
      exact bodyPost_ret (v := .tuple #[]) (by simp [results, Try.results75, go_sem]) rfl ⟨rfl, HR.out⟩
    · obtain ⟨i, rfl⟩ : ∃ i, a = i + 2 := ⟨a - 2, by omega⟩
      have hi : i < s.L.length := by omega
      obtain ⟨x, hx⟩ : ∃ x, s.L[i]? = some x := ⟨s.L[i], List.getElem?_eq_getElem hi⟩
      obtain ⟨b, hb⟩ : ∃ b, b = U.getD i false := ⟨_, rfl⟩
      have cu : w.cell? ⟨g, i, none⟩ = some (.bool b) := by
        rw [hrow.cellAt i (by omega), hb]
        simp [boos, List.getD_eq_getElem?_getD, List.getElem?_eq_getElem (show i < U.length by omega)]
      have fzu := hrow.frozenAt i
      have e1 : ((i + 2 : Nat) : Int) = (i : Int) + 2 := by omega
      have hl : ¬ ((i : Int) + 2 < 2) := by omega
      have hI : (i : Int) < (s.L.length : Int) := by omega
      have hsm := hT.small.1
      cases b with
      | true =>
        have hm : markF s.L (f + 1 + 1) (i + 2) U = U := by rw [markF_succ, if_neg (by omega), Nat.add_sub_cancel, if_pos hb.symm]
        rw [hm]
        have HR : Hid (Marked w g cap s.L.length U w) := ⟨hrow, rfl, rfl, rfl, rfl, fun _ _ => rfl⟩
        simp only [i6, e1]
        generalize s.L.length = len at *
        clear hT hrow ih hm hb hU hx e1
        go_enter Try.func75, Try.ntmps75
        go_wp2
        exact bodyPost_ret (v := .tuple #[]) (by simp [results, Try.results75, go_sem]) rfl ⟨rfl, HR.out⟩
      | false =>
        have hfit := hT.okay.fit i _ hx
        have hm : markF s.L (f + 1 + 1) (i + 2) U = markF s.L (f + 1) x.2.2 (markF s.L (f + 1) x.2.1 (U.set i true)) := by
          rw [markF_succ, if_neg (by omega), Nat.add_sub_cancel, if_neg (by rw [← hb]; simp)]
          have e : s.L.getD i (0, 0, 0) = x := by rw [List.getD_eq_getElem?_getD, hx]; rfl
          rw [e]
        rw [hm]
        have hrow1 := (hrow.stored i (.bool true)).1
        rw [boos_set] at hrow1
        have M0 : Marked w g cap s.L.length (U.set i true) (w.setCell ⟨g, i, none⟩ (.bool true)) := ⟨hrow1, rfl, rfl, rfl, by simp, fun k hk => set_other _ hk⟩
        have keepT : ∀ {w1 : World} {V : List Bool}, Marked w g cap s.L.length V w1 → QTab w1 y s := fun hM => hT.same fun k hk => hM.block k (fun e => hg (by rw [← e]; exact hk))
        have T0 := keepT M0
        have c1 := ih x.2.1 (by omega) (by omega) _ (U.set i true) T0 (by rw [List.length_set]; exact hU) hrow1
        have HC1 := keep c1
        have c2' := hT.cell2
        obtain ⟨gn, capn, hv, n0, n1, n2⟩ := hT.node hx
        have hgn : gn ≠ g := fun e => hg (by rw [← e]; exact y.own_ns (by rw [hv]; rfl))
        have htb : y.tb ≠ g := fun e => hg (by rw [← e]; exact y.own_tb)
        rw [hv] at c2'
        have HNX : Hid (∀ w1, Marked w g cap s.L.length (markF s.L (f + 1) x.2.1 (U.set i true)) w1 → (w1.cell? ⟨y.tb, 2, none⟩ = some (.slice (some ⟨gn, 0, none⟩) s.L.length capn) ∧ w1.cell? ⟨gn, i * 3 + 2, none⟩ = some (.int .i64 x.2.2)) ∧
            Calls Try.prog 75 #[.pointer (some ⟨y.tb, 0, none⟩), i6 x.2.2, .slice (some ⟨g, 0, none⟩) s.L.length cap] w1 fun e w' => e = .returned (.tuple #[]) ∧ Marked w g cap s.L.length (markF s.L (f + 1) x.2.2 (markF s.L (f + 1) x.2.1 (U.set i true))) w') := fun w1 hM => by
          refine ⟨⟨by rw [World.cell?_of_block (hM.block _ htb)]; exact c2', by rw [World.cell?_of_block (hM.block _ hgn)]; exact n2⟩, ?_⟩
          refine (ih x.2.2 (by omega) (by omega) w1 _ (keepT hM) (by rw [markF_length, List.length_set]; exact hU) hM.row).mono ?_
          rintro e w' ⟨rfl, h⟩
          exact ⟨rfl, hM.trans h⟩
        have HM0 := keep M0
        simp only [i6, e1] at HC1 HNX ⊢
        generalize hlen : s.L.length = len at *
        clear hT hrow ih hm c1 hrow1 M0 T0 keepT hfit hb hU hx e1 hlen hv
        go_enter Try.func75, Try.ntmps75
        go_wp2_with fail
        refine HC1.out.mono ?_
        rintro e w1 ⟨rfl, h1⟩
        obtain ⟨⟨q2, q3⟩, q4⟩ := HNX.out w1 (HM0.out.trans h1)
        have HC2 := keep q4
        clear q4 h1
        go_wp2_with fail
        refine HC2.out.mono ?_
        rintro e w2 ⟨rfl, h2⟩
        have H2 := keep h2
        clear h2
        go_wp2
        go_end0
        exact ⟨rfl, H2.out⟩
end Go.Proofs.Ytnkipdlfpnmgeaa
namespace Go.Proofs.Ytnkipdlfpnmgeaa
open Go.RowKit Go.Maps
open Bd (Nd)

theorem boos_one (l : List Bool) : ∀ u ∈ boos l, u.oneCell' = true := by
  intro u hu
  obtain ⟨b, _, rfl⟩ := List.mem_map.1 hu
  rfl
/-- append of a row of marks, nil or not, onto one of one's own. -/
theorem wpList_append_boo {P : Program} (w : World) {ops : Array Oper} {rest : List Oper} {o : Oper} {a : Act} {Q : Exit → Act → World → Prop} (hgd : o.guard = none) (s x : Operand) (t : TypeId)
    (ho : o.op = .call { callee := .builtin .append, args := #[s, x], argTypes := #[t, t] })
    (base : Nat) (e : TypeId) (i : TypeInfo) (z : Value) (bytes : Nat) (ht : P.underlying t = some (.slice e)) (hi : P.info? e = some i) (hz : i.zero = some z)
    (hsize : i.size = 1) (hby : i.bytes = bytes) (hzs : z.cells.size = 1)
    (g c : Nat) (hs : a.eval s = .slice (some ⟨g, 0, none⟩) 0 c) (hown : w.ownsRow base e 1 (.slice (some ⟨g, 0, none⟩) 0 c) 0 [])
    (vx : Value) (m : Nat) (U : List Bool) (hx : a.eval x = vx) (hsrc : w.ownsRow 0 e 1 vx m (boos U))
    (h63 : m ≤ maxLen) (hbytes : m * bytes ≤ 140737488355328) (hbase : base ≤ w.heap.size)
    (h : ∀ g' cap w', w'.ownsRow base e 1 (.slice (some ⟨g', 0, none⟩) m cap) m (boos U) → w.grownBy w' (some g) → (g' = g ∨ g' = w.heap.size) → wpList P ops Q rest (a.put o.dst (.slice (some ⟨g', 0, none⟩) m cap)) w') :
    wpList P ops Q (o :: rest) a w := by
  have h0 := hsrc
  rcases hsrc.2 with ⟨rfl, rfl⟩ | ⟨gx, cap, cur, rfl, _, hg, _⟩
  · refine wpList_append_own_none hgd s x t ho base e i 1 ht hi _ 0 [] hs hown hx ?_
    have hU : U = [] := by have := h0.1; rw [boos_length] at this; exact List.length_eq_zero_iff.1 (by omega)
    refine h g c w ?_ ⟨rfl, rfl, rfl, Nat.le_refl _, fun _ _ _ => rfl⟩ (Or.inl rfl)
    rw [hU]
    exact hown
  · have hl := h0.1
    refine wpList_append_own_at w hgd s x t ho base e i z 1 bytes ht hi hz hsize hby hzs (by decide) _ 0 [] hs hown ⟨gx, 0, none⟩ m cap (boos U) hx hl (fun j u hj => h0.cells rfl j u hj) (boos_one U) (by omega) (by rw [Nat.zero_add]; exact hbytes) hbase ?_
    intro v' w' h1 h2 h3 h4
    rw [Nat.zero_add] at h1
    obtain ⟨ao, cp, hv⟩ := row_slice h1
    have hne : v' ≠ .slice none 0 0 := fun e => by
      have := h3.1 e
      simp at this
    rcases h1.2 with ⟨e, _⟩ | ⟨g', cp', cur', e, _⟩
    · exact absurd e hne
    · subst e
      refine h g' cp' w' h1 h2 ?_
      rcases h4 with e | e
      · left; simp [Value.ownBlock] at e; exact e
      · right; simp [Value.ownBlock] at e; exact e

theorem row_zero {w : World} {base e size n : Nat} {v : Value} {xs : List Value} (h : w.ownsRow base e size v n xs) : w.ownsRow 0 e size v n xs := by
  refine ⟨h.1, ?_⟩
  rcases h.2 with q | ⟨g, cap, cur, e, _, h2⟩
  · exact Or.inl q
  · exact Or.inr ⟨g, cap, cur, e, Nat.zero_le _, h2⟩
def cntB (l : List Bool) : Nat := l.count true
theorem cntB_le (l : List Bool) : cntB l ≤ l.length := List.count_le_length
theorem cntB_succ {U : List Bool} {j : Nat} {b : Bool} (h : U[j]? = some b) : cntB (U.take (j + 1)) = cntB (U.take j) + (if b = true then 1 else 0) := by
  unfold cntB
  rw [List.take_add_one, h]
  cases b <;> simp

def QSt.tell (s : QSt) (a : Nat) : QSt := { s with U := markF s.L (s.L.length + 1) a s.U, T := if a < 2 then s.T else s.T.set (a - 2) true }

/-- The marks are the table's own. -/
theorem qtell_tab {w w1 : World} {y : QLay} {s : QSt} {a g cap : Nat} (hT : QTab w1 y s) (ha : a < s.L.length + 2) (hrow : w1.ownsRow 0 4 1 (.slice (some ⟨g, 0, none⟩) s.L.length cap) s.L.length (boos (markF s.L (s.L.length + 1) a s.U))) (hg : ¬ y.own g) (hgw : w.heap.size ≤ g) (hb : Below w.heap.size w w1) (_hy : ∀ k, y.own k → k < w.heap.size) :
    ∃ gt ct, (2 ≤ a → y.ts = .slice (some ⟨gt, 0, none⟩) s.L.length ct ∧ gt ≠ y.tb) ∧
    QTab (if a < 2 then w1.setCell ⟨y.tb, 3, none⟩ (.slice (some ⟨g, 0, none⟩) s.L.length cap) else (w1.setCell ⟨y.tb, 3, none⟩ (.slice (some ⟨g, 0, none⟩) s.L.length cap)).setCell ⟨gt, a - 2, none⟩ (.bool true)) { y with us := .slice (some ⟨g, 0, none⟩) s.L.length cap } (s.tell a) ∧
    Touch y.own (QLay.own { y with us := .slice (some ⟨g, 0, none⟩) s.L.length cap }) w (if a < 2 then w1.setCell ⟨y.tb, 3, none⟩ (.slice (some ⟨g, 0, none⟩) s.L.length cap) else (w1.setCell ⟨y.tb, 3, none⟩ (.slice (some ⟨g, 0, none⟩) s.L.length cap)).setCell ⟨gt, a - 2, none⟩ (.bool true)) := by
  obtain ⟨a1, a2, a3, a4, a5⟩ := hT.apart
  have hgt : g ≠ y.tb := fun e => hg (by rw [e]; exact y.own_tb)
  have hset := set_block (o := 3) (.slice (some ⟨g, 0, none⟩) s.L.length cap) hT.cells
  have hnot : ∀ k, y.own k → k ≠ g := fun k hk e => hg (by rw [← e]; exact hk)
  -- the table behind the first store
  have T1 : QTab (w1.setCell ⟨y.tb, 3, none⟩ (.slice (some ⟨g, 0, none⟩) s.L.length cap)) { y with us := .slice (some ⟨g, 0, none⟩) s.L.length cap } { s with U := markF s.L (s.L.length + 1) a s.U } :=
    { cells := by rw [hset]; rfl
      list := row_same hT.list fun g' hg' => set_other _ (fun e => a1 (by rw [hg', e]))
      used := row_same hrow fun g' hg' => set_other _ (by simp [Value.ownBlock] at hg'; rw [← hg']; exact hgt)
      told := row_same hT.told fun g' hg' => set_other _ (fun e => a3 (by rw [hg', e]))
      two := fun g' e1 e2 => by simp [Value.ownBlock] at e1; subst e1; exact hg (y.own_ts e2)
      okay := hT.okay
      small := hT.small }
  have Tch : Touch y.own (QLay.own { y with us := .slice (some ⟨g, 0, none⟩) s.L.length cap }) w (w1.setCell ⟨y.tb, 3, none⟩ (.slice (some ⟨g, 0, none⟩) s.L.length cap)) := by
    refine ⟨fun k hk => ?_, hb.os, hb.tape, hb.output, by have := hb.size; simpa using this, fun k hk hn => ?_⟩
    · rcases hk with e | e | e | e
      · exact Or.inl (Or.inl e)
      · exact Or.inl (y.own_ns e)
      · simp [Value.ownBlock] at e; right; omega
      · exact Or.inl (y.own_ts e)
    · rw [set_other _ (fun e => hn (by rw [show k = y.tb from e]; exact y.own_tb))]
      exact hb.block k hk
  by_cases h2 : a < 2
  · refine ⟨0, 0, fun h => by omega, ?_, ?_⟩
    · rw [if_pos h2]
      have e : s.tell a = { s with U := markF s.L (s.L.length + 1) a s.U } := by unfold QSt.tell; rw [if_pos h2]
      rw [e]
      exact T1
    · rw [if_pos h2]; exact Tch
  · obtain ⟨gt, ct, hv, _, hgl⟩ := hT.told.form (by omega)
    have hto : y.ts.ownBlock = some gt := by rw [hv]; rfl
    have hgtb : gt ≠ y.tb := fun e => a3 (by rw [hto, e])
    have hl := T1.told
    have hv' : ({ y with us := .slice (some ⟨g, 0, none⟩) s.L.length cap } : QLay).ts = .slice (some ⟨gt, 0, none⟩) s.L.length ct := hv
    rw [hv'] at hl
    obtain ⟨hst, hgr⟩ := hl.stored (a - 2) (.bool true)
    rw [boos_set] at hst
    refine ⟨gt, ct, fun _ => ⟨hv, hgtb⟩, ?_, ?_⟩
    · rw [if_neg h2]
      have e : s.tell a = { s with U := markF s.L (s.L.length + 1) a s.U, T := s.T.set (a - 2) true } := by unfold QSt.tell; rw [if_neg h2]
      rw [e]
      have hgg : g ≠ gt := fun e => hg (by rw [e]; exact y.own_ts hto)
      refine { cells := ?_, list := ?_, used := ?_, told := ?_, two := T1.two, okay := T1.okay, small := T1.small }
      · rw [set_other _ (fun e => hgtb (Eq.symm e))]; exact T1.cells
      · exact row_same T1.list fun g' hg' => set_other _ (fun e => a5 g' hg' (by rw [hto]; exact congrArg some (Eq.symm e)))
      · exact row_same T1.used fun g' hg' => set_other _ (fun e => by simp [Value.ownBlock] at hg'; exact hgg (hg'.trans e))
      · show World.ownsRow _ 0 4 1 y.ts s.L.length (boos (s.T.set (a - 2) true))
        rw [hv]
        exact hst
    · rw [if_neg h2]
      refine Tch.trans ⟨fun k hk => Or.inl hk, rfl, rfl, rfl, by simp, fun k hk hn => set_other _ (fun e => hn (by rw [show k = gt from e]; exact QLay.own_ts _ hto))⟩

set_option maxRecDepth 2000 in
set_option maxHeartbeats 4000000 in
theorem qtell_any {w : World} {y : QLay} {s : QSt} (hT : QTab w y s) (a : Nat) (ha : a < s.L.length + 2) :
    Calls Try.prog 51 #[.pointer (some ⟨y.tb, 0, none⟩), i6 a] w fun e w' =>
      (s.limit < cntB (s.tell a).U ∧ e = .returned (.tuple #[.int .i64 0, .int .i64 20]) ∧ Below w.heap.size w w') ∨
      (cntB (s.tell a).U ≤ s.limit ∧ e = .returned (.tuple #[i6 a, .int .i64 0]) ∧ ∃ y', QTab w' y' (s.tell a) ∧ Touch y.own y'.own w w' ∧ y'.tb = y.tb) := by
  obtain ⟨i1, hi1, hy0, hy1, hy2⟩ := info_parts Try.infoBoo
  have HI1 := keep hi1
  have HY0 := keep hy0
  have HY1 := keep hy1
  have HY2 := keep hy2
  have HT := keep hT
  have HA := keep ha
  have hsm := hT.small
  have c3 := hT.cell3
  have ltb := hT.lt y.own_tb
  obtain ⟨n, hn⟩ : ∃ n, n = s.L.length := ⟨_, rfl⟩
  have HN := keep hn
  have hlimI : (s.limit : Int) ≤ 1048576 := by omega
  have hnI : (n : Int) ≤ 1073741824 := by omega
  clear hT hi1 hy0 hy1 hy2 hsm hn
  go_enter Try.func51, Try.ntmps51
  have HO := keep (World.ownsRow_lit (e := 4) (size := 1) w #[] 0 (Nat.le_refl _) (by unfold maxLen; omega) rfl)
  have HU : Hid (∀ o, (w.alloc o).ownsRow 0 4 1 y.us n (boos s.U)) := fun o => by rw [HN.out]; exact HT.out.used.alloc o
  go_wp2_with (at_builtin; refine wpList_append_boo _ rfl (.tmp 9) (.tmp 13) 64 rfl w.heap.size 4 i1 (.bool false) 1 Try.underlying64 HI1.out HY0.out HY1.out HY2.out rfl w.heap.size 0 rfl HO.out y.us n s.U rfl (HU.out _) (by unfold maxLen; omega) (by omega) (by simp) ?_)
  intro g cap w1 hown1 hgrow1 hat1
  have hB1 : Below w.heap.size w w1 := ((Below.refl _ _).alloc (Nat.le_refl _) _).grown hgrow1 (by simp) (fun k hk => by simp at hk; omega)
  have hgw : w.heap.size ≤ g := (hown1.lt g rfl).1
  have hgn : ¬ y.own g := fun ho => by have := HT.out.lt ho; omega
  have T1 := HT.out.below hB1
  have hrow1 : w1.ownsRow 0 4 1 (.slice (some ⟨g, 0, none⟩) n cap) n (boos s.U) := row_zero hown1
  have HC : Hid (Calls Try.prog 75 #[.pointer (some ⟨y.tb, 0, none⟩), i6 a, .slice (some ⟨g, 0, none⟩) n cap] w1 fun e w2 => e = .returned (.tuple #[]) ∧ Marked w1 g cap n (s.tell a).U w2) := by
    have := mark_any (s := s) g cap hgn s.L.length a (by omega) (by omega) w1 s.U T1 T1.lenU (by rw [HN.out] at hrow1; exact hrow1)
    rw [← HN.out] at this
    rw [HN.out] at this ⊢
    exact this
  have HB1 := keep hB1
  have HT1 := keep T1
  clear hown1 hgrow1 hat1 T1 hrow1 HO HU hB1
  go_wp2_with fail
  refine HC.out.mono ?_
  rintro e w2 ⟨rfl, hm⟩
  have HM := keep hm
  have hlV : (s.tell a).U.length = n := by
    have := hm.row.1
    rw [boos_length] at this
    omega
  have HLV := keep hlV
  have HB2 : Hid (Below w.heap.size w w2) := ⟨hm.os.trans HB1.out.os, hm.tape.trans HB1.out.tape, hm.output.trans HB1.out.output, by rw [hm.size]; exact HB1.out.size, fun k hk => (hm.block k (by omega)).trans (HB1.out.block k hk)⟩
  have HT2 : Hid (QTab w2 y s) := HT1.out.same fun k hk => hm.block k (fun e => hgn (by rw [← e]; exact hk))
  clear hm HC hlV
  go_wp2
  obtain ⟨V, hV⟩ : ∃ V, V = (s.tell a).U := ⟨_, rfl⟩
  have HVV := keep hV
  rw [← hV] at HM HLV
  clear hV
  go_loopw [7, 8] (fun p i wr => ∃ j : Nat, j ≤ n ∧ i = .int .i64 j ∧ p = .int .i64 (cntB (V.take j)) ∧ wr = w2) (fun _ i _ => n - (intOf i).toNat)
  case atStart => exact ⟨0, Nat.zero_le _, rfl, rfl, rfl⟩
  case round =>
    obtain ⟨j, hj, rfl, rfl, rfl⟩ := hrel
    have hcj : (cntB (V.take j) : Int) ≤ 1073741824 := by
      have h1 := cntB_le (V.take j)
      have h2 : (V.take j).length ≤ j := List.length_take_le _ _
      omega
    by_cases hlt : j < n
    · obtain ⟨b, hb⟩ : ∃ b, V[j]? = some b := ⟨V[j]'(by rw [HLV.out]; exact hlt), List.getElem?_eq_getElem (by rw [HLV.out]; exact hlt)⟩
      have HS := keep (cntB_succ hb)
      have cb : wr.cell? ⟨g, j, none⟩ = some (.bool b) := by
        rw [HM.out.row.cellAt j (by omega)]
        simp [boos, hb]
      have hjI : (j : Int) < (n : Int) := by omega
      obtain ⟨q, hq⟩ : ∃ q, q = cntB (V.take j) := ⟨_, rfl⟩
      rw [← hq] at hcj ⊢
      have HQ := keep hq
      clear hb hq
      cases b
      · go_wp2
        go_roundw
        case rel => exact ⟨j + 1, by omega, by go_num, by rw [HS.out, ← HQ.out]; rfl, by first | trivial | rfl⟩
        case measure => simp [intOf]; omega
      · go_wp2
        go_roundw
        case rel => exact ⟨j + 1, by omega, by go_num, by rw [HS.out, ← HQ.out]; simp, by first | trivial | rfl⟩
        case measure => simp [intOf]; omega
    · have hjn : j = n := by omega
      subst hjn
      have hall : V.take j = V := by rw [← HLV.out]; exact List.take_length
      rw [hall] at hcj ⊢
      have c1 := HT2.out.cell1
      obtain ⟨q, hq⟩ : ∃ q, q = cntB V := ⟨_, rfl⟩
      rw [← hq] at hcj ⊢
      have HQ : Hid (q = cntB (s.tell a).U) := by rw [← HVV.out]; exact hq
      clear hall hq
      rcases Nat.lt_or_ge s.limit q with hfull | hfit
      · have hfI : (s.limit : Int) < (q : Int) := by omega
        go_wp2
        go_ret2
        exact Or.inl ⟨by rw [← HQ.out]; exact hfull, rfl, HB2.out⟩
      · have hfI : ¬ (s.limit : Int) < (q : Int) := by omega
        have hrowV := HM.out.row
        rw [HVV.out] at hrowV
        have hrowV' : wr.ownsRow 0 4 1 (.slice (some ⟨g, 0, none⟩) s.L.length cap) s.L.length (boos (markF s.L (s.L.length + 1) a s.U)) := by
          rw [HN.out] at hrowV
          exact hrowV
        obtain ⟨gt, ct, hts, hTT, hTch⟩ := qtell_tab HT2.out HA.out hrowV' hgn hgw HB2.out (fun k hk => HT.out.lt hk)
        rw [← HN.out] at hTT hTch hts
        have c3' := HT2.out.cell3
        have c4' := HT2.out.cell4
        have f3 : wr.frozen? ⟨y.tb, 3, none⟩ = false := not_frozen HT2.out.cells
        by_cases h2 : a < 2
        · rw [if_pos h2] at hTT hTch
          have hI2 : ¬ (2 : Int) ≤ (a : Int) := by omega
          have HR := keep (And.intro hTT hTch)
          clear hTT hTch hts hrowV hrowV'
          go_wp2
          go_ret2
          exact Or.inr ⟨by rw [← HQ.out]; exact hfit, rfl, _, HR.out.1, HR.out.2, rfl⟩
        · rw [if_neg h2] at hTT hTch
          obtain ⟨htsE, hgtb⟩ := hts (by omega)
          obtain ⟨i, rfl⟩ : ∃ i, a = i + 2 := ⟨a - 2, by omega⟩
          rw [htsE] at c4'
          have hi : i < s.L.length := by have := HA.out; omega
          have ct4 := HT2.out.told
          rw [htsE, ← HN.out] at ct4
          obtain ⟨bt, hbt⟩ : ∃ bt, wr.cell? ⟨gt, i, none⟩ = some (.bool bt) := by
            rw [ct4.cellAt i (by rw [HN.out]; omega)]
            have := HT2.out.lenT
            exact ⟨s.T[i]'(by omega), by simp [boos, List.getElem?_eq_getElem (show i < s.T.length by omega)]⟩
          have fgt := ct4.frozenAt i
          have HR := keep (And.intro hTT hTch)
          have e1 : ((i + 2 : Nat) : Int) = (i : Int) + 2 := by omega
          have hIn : (i : Int) < (j : Int) := by have := HN.out; omega
          simp only [i6, e1]
          clear hTT hTch hts hrowV hrowV' htsE ct4 hi e1
          go_wp2
          go_ret2
          exact Or.inr ⟨by rw [← HQ.out]; exact hfit, by simp, _, HR.out.1, HR.out.2, rfl⟩
end Go.Proofs.Ytnkipdlfpnmgeaa
namespace Go.Proofs.Ytnkipdlfpnmgeaa
open Bd (Nd)

def Mk (U : List Bool) (i : Nat) : Prop := U[i]? = some true
/-- Marked nodes below b have their kids marked. -/
def ClB (L : List Nd) (U : List Bool) (b : Nat) : Prop := ∀ i x, i + 2 < b → Mk U i → L[i]? = some x → (x.2.1 < 2 ∨ Mk U (x.2.1 - 2)) ∧ (x.2.2 < 2 ∨ Mk U (x.2.2 - 2))
theorem mk_set {U : List Bool} {a i : Nat} (ha : a < U.length) : Mk (U.set a true) i ↔ (i = a ∨ Mk U i) := by
  unfold Mk
  rw [List.getElem?_set]
  by_cases e : a = i
  · rw [if_pos e, if_pos (by omega)]; simp [e]
  · rw [if_neg e]
    constructor
    · intro h; exact Or.inr h
    · intro h
      rcases h with h | h
      · exact absurd h.symm e
      · exact h
theorem not_mk {U : List Bool} {a : Nat} (_ha : a < U.length) (h : U.getD a false ≠ true) : ¬ Mk U a := by
  intro hm
  unfold Mk at hm
  rw [List.getD_eq_getElem?_getD, hm] at h
  exact h rfl

theorem markF_spec {bits : Nat} {L : List Nd} (hL : Bd.Okay bits L) : ∀ F a b (U : List Bool), a ≤ F → a < b → a < L.length + 2 → U.length = L.length → ClB L U b →
    ClB L (markF L F a U) b ∧ (∀ i, Mk U i → Mk (markF L F a U) i) ∧ (a < 2 ∨ Mk (markF L F a U) (a - 2)) ∧ (∀ i, Mk (markF L F a U) i → Mk U i ∨ Reach L a (i + 2)) := by
  intro F
  induction F with
  | zero =>
    intro a b U ha hab hal hU hC
    exact ⟨hC, fun _ h => h, Or.inl (by omega), fun _ h => Or.inl h⟩
  | succ f ih =>
    intro a b U ha hab hal hU hC
    rw [markF_succ]
    by_cases h2 : a < 2
    · rw [if_pos h2]
      exact ⟨hC, fun _ h => h, Or.inl h2, fun _ h => Or.inl h⟩
    · rw [if_neg h2]
      by_cases hu : U.getD (a - 2) false = true
      · rw [if_pos hu]
        refine ⟨hC, fun _ h => h, Or.inr ?_, fun _ h => Or.inl h⟩
        unfold Mk
        rw [List.getD_eq_getElem?_getD, List.getElem?_eq_getElem (show a - 2 < U.length by omega)] at hu
        rw [List.getElem?_eq_getElem (show a - 2 < U.length by omega)]
        exact congrArg some hu
      · rw [if_neg hu]
        obtain ⟨i, rfl⟩ : ∃ i, a = i + 2 := ⟨a - 2, by omega⟩
        obtain ⟨x, hx⟩ : ∃ x, L[i]? = some x := ⟨L[i]'(by omega), List.getElem?_eq_getElem (by omega)⟩
        have hfit := hL.fit i x hx
        have e : L.getD (i + 2 - 2) (0, 0, 0) = x := by rw [Nat.add_sub_cancel, List.getD_eq_getElem?_getD, hx]; rfl
        rw [e, Nat.add_sub_cancel]
        have hiU : i < U.length := by omega
        have hC1 : ClB L (U.set i true) (i + 2) := fun j z hj hm hz => by
          rcases (mk_set hiU).1 hm with e | e
          · omega
          · obtain ⟨c1, c2⟩ := hC j z (by omega) e hz
            exact ⟨c1.imp id fun h => (mk_set hiU).2 (Or.inr h), c2.imp id fun h => (mk_set hiU).2 (Or.inr h)⟩
        obtain ⟨p1, p2, p3, p4⟩ := ih x.2.1 (i + 2) (U.set i true) (by omega) (by omega) (by omega) (by rw [List.length_set]; exact hU) hC1
        obtain ⟨q1, q2, q3, q4⟩ := ih x.2.2 (i + 2) (markF L f x.2.1 (U.set i true)) (by omega) (by omega) (by omega) (by rw [markF_length, List.length_set]; exact hU) p1
        have up : ∀ j, Mk U j → Mk (markF L f x.2.2 (markF L f x.2.1 (U.set i true))) j := fun j hj => q2 j (p2 j ((mk_set hiU).2 (Or.inr hj)))
        have me : Mk (markF L f x.2.2 (markF L f x.2.1 (U.set i true))) i := q2 i (p2 i ((mk_set hiU).2 (Or.inl rfl)))
        have down : ∀ j, Mk (markF L f x.2.2 (markF L f x.2.1 (U.set i true))) j → Mk U j ∨ Reach L (i + 2) (j + 2) := fun j hj => by
          rcases q4 j hj with h | h
          · rcases p4 j h with h | h
            · rcases (mk_set hiU).1 h with rfl | h
              · exact Or.inr .self
              · exact Or.inl h
            · exact Or.inr ((Reach.low .self hx).trans h)
          · exact Or.inr ((Reach.high .self hx).trans h)
        refine ⟨fun j z hj hm hz => ?_, up, Or.inr me, down⟩
        rcases Nat.lt_trichotomy j i with hji | hji | hji
        · exact q1 j z (by omega) hm hz
        · subst hji
          rw [hx] at hz
          cases hz
          exact ⟨p3.imp id fun h => q2 _ h, q3⟩
        · have hmU : Mk U j := by
            rcases down j hm with h | h
            · exact h
            · have := (Reach.lt hL (by omega) h).2; omega
          obtain ⟨c1, c2⟩ := hC j z hj hmU hz
          exact ⟨c1.imp id fun h => up _ h, c2.imp id fun h => up _ h⟩

/-- Marks are those of the nodes beneath the told ones. -/
def Marks (L : List Nd) (U T : List Bool) : Prop := ∀ i, Mk U i ↔ ∃ r, Mk T r ∧ Reach L (r + 2) (i + 2)
theorem Marks.closed {L : List Nd} {U T : List Bool} (h : Marks L U T) (b : Nat) : ClB L U b := fun i x _ hm hx => by
  obtain ⟨r, hr, hR⟩ := (h i).1 hm
  have key : ∀ c, Reach L (r + 2) c → c < 2 ∨ Mk U (c - 2) := fun c hc => by
    rcases Nat.lt_or_ge c 2 with h2 | h2
    · exact Or.inl h2
    · right
      refine (h (c - 2)).2 ⟨r, hr, ?_⟩
      rw [show c - 2 + 2 = c by omega]
      exact hc
  exact ⟨key _ (.low hR hx), key _ (.high hR hx)⟩
/-- A closed set of marks that has a node has all beneath it. -/
theorem cl_reach {bits : Nat} {L : List Nd} (_hL : Bd.Okay bits L) {U : List Bool} (h : ∀ b, ClB L U b) {a c : Nat} (_ha : a < L.length + 2) (hm : a < 2 ∨ Mk U (a - 2)) (hr : Reach L a c) : c < 2 ∨ Mk U (c - 2) := by
  induction hr with
  | self => exact hm
  | @low m x _ hx ih =>
    rcases ih with h2 | h2
    · omega
    · rw [Nat.add_sub_cancel] at h2
      exact (h (m + 3) m x (by omega) h2 hx).1
  | @high m x _ hx ih =>
    rcases ih with h2 | h2
    · omega
    · rw [Nat.add_sub_cancel] at h2
      exact (h (m + 3) m x (by omega) h2 hx).2
theorem Marks.tell {bits : Nat} {s : QSt} (hL : Bd.Okay bits s.L) (hU : s.U.length = s.L.length) (hT : s.T.length = s.L.length) (h : Marks s.L s.U s.T) {a : Nat} (ha : a < s.L.length + 2) : Marks s.L (s.tell a).U (s.tell a).T := by
  have sp := fun b hb => markF_spec hL (s.L.length + 1) a b s.U (by omega) hb ha hU (h.closed b)
  obtain ⟨_, u2, u3, u4⟩ := sp (a + 1) (by omega)
  have hC : ∀ b, ClB s.L (markF s.L (s.L.length + 1) a s.U) b := fun b => by
    intro i x hi hm hx
    exact (sp (max b (a + 1)) (by omega)).1 i x (by omega) hm hx
  have hTa : ∀ r, Mk (s.tell a).T r ↔ ((2 ≤ a ∧ r = a - 2) ∨ Mk s.T r) := fun r => by
    show Mk (if a < 2 then s.T else s.T.set (a - 2) true) r ↔ _
    by_cases h2 : a < 2
    · rw [if_pos h2]
      constructor
      · intro h; exact Or.inr h
      · intro h
        rcases h with h | h
        · omega
        · exact h
    · rw [if_neg h2, mk_set (by omega)]
      constructor
      · intro h
        rcases h with h | h
        · exact Or.inl ⟨by omega, h⟩
        · exact Or.inr h
      · intro h
        rcases h with h | h
        · exact Or.inl h.2
        · exact Or.inr h
  intro i
  show Mk (markF s.L (s.L.length + 1) a s.U) i ↔ _
  constructor
  · intro hm
    rcases u4 i hm with h1 | h1
    · obtain ⟨r, hr, hR⟩ := (h i).1 h1
      exact ⟨r, (hTa r).2 (Or.inr hr), hR⟩
    · have := (Reach.lt hL ha h1).2
      refine ⟨a - 2, (hTa _).2 (Or.inl ⟨by omega, rfl⟩), ?_⟩
      rw [show a - 2 + 2 = a by omega]
      exact h1
  · rintro ⟨r, hr, hR⟩
    rcases (hTa r).1 hr with ⟨h2, rfl⟩ | hr
    · rw [show a - 2 + 2 = a by omega] at hR
      have := cl_reach hL hC ha u3 hR
      rcases this with h3 | h3
      · omega
      · rwa [Nat.add_sub_cancel] at h3
    · exact u2 i ((h i).2 ⟨r, hr, hR⟩)
theorem mk_app {U : List Bool} {n i : Nat} : Mk (U ++ List.replicate n false) i ↔ Mk U i := by
  unfold Mk
  rcases Nat.lt_or_ge i U.length with h | h
  · rw [List.getElem?_append_left h]
  · rw [List.getElem?_append_right h, List.getElem?_replicate, List.getElem?_eq_none h]
    split <;> simp
theorem Reach.back {bits : Nat} {L N : List Nd} (hL : Bd.Okay bits L) {a b : Nat} (ha : a < L.length + 2) (h : Reach (L ++ N) a b) : Reach L a b := by
  induction h with
  | self => exact .self
  | @low m x _ hx ih =>
    have := (Reach.lt hL ha ih).1
    rw [List.getElem?_append_left (by omega)] at hx
    exact .low ih hx
  | @high m x _ hx ih =>
    have := (Reach.lt hL ha ih).1
    rw [List.getElem?_append_left (by omega)] at hx
    exact .high ih hx
theorem Marks.grow {bits : Nat} {s : QSt} (hL : Bd.Okay bits s.L) (hT : s.T.length = s.L.length) (h : Marks s.L s.U s.T) (N : List Nd) : Marks (s.grow N).L (s.grow N).U (s.grow N).T := by
  intro i
  show Mk (s.U ++ List.replicate N.length false) i ↔ ∃ r, Mk (s.T ++ List.replicate N.length false) r ∧ Reach (s.L ++ N) (r + 2) (i + 2)
  rw [mk_app, h i]
  constructor
  · rintro ⟨r, hr, hR⟩
    exact ⟨r, mk_app.2 hr, hR.grow N⟩
  · rintro ⟨r, hr, hR⟩
    have hr' := mk_app.1 hr
    have := Bd.getElem?_lt hr'
    exact ⟨r, hr', hR.back hL (by omega)⟩

/-- How many marks stand ahead of a place. -/
theorem cntB_take_lt {U : List Bool} {p : Nat} (h : Mk U p) : cntB (U.take p) < cntB U := by
  have h1 := cntB_succ h
  have h2 : cntB (U.take (p + 1)) ≤ cntB U := by
    have : cntB U = cntB (U.take (p + 1)) + cntB (U.drop (p + 1)) := by
      unfold cntB
      rw [← List.count_append, List.take_append_drop]
    omega
  rw [if_pos rfl] at h1
  omega
theorem cntB_take_mono {U : List Bool} {p q : Nat} (h : p ≤ q) : cntB (U.take p) ≤ cntB (U.take q) := by
  have e : U.take p ++ (U.take q).drop p = U.take q := by
    have := List.take_append_drop p (U.take q)
    rw [List.take_take, Nat.min_eq_left h] at this
    exact this
  unfold cntB
  rw [← e, List.count_append]
  omega
theorem cntB_inj {U : List Bool} {p q : Nat} (hp : Mk U p) (hq : Mk U q) (h : cntB (U.take p) = cntB (U.take q)) : p = q := by
  have a1 := cntB_succ hp
  have a2 := cntB_succ hq
  rw [if_pos rfl] at a1 a2
  rcases Nat.lt_trichotomy p q with h1 | h1 | h1
  · have := cntB_take_mono (U := U) (show p + 1 ≤ q by omega); omega
  · exact h1
  · have := cntB_take_mono (U := U) (show q + 1 ≤ p by omega); omega
theorem cntB_at : ∀ {U : List Bool} {j : Nat}, j < cntB U → ∃ p, Mk U p ∧ cntB (U.take p) = j := by
  intro U
  refine Bd.snoc_ind (p := fun U => ∀ {j : Nat}, j < cntB U → ∃ p, Mk U p ∧ cntB (U.take p) = j) (fun h => by simp [cntB] at h) (fun U b ih => ?_) U
  intro j hj
  have e : cntB (U ++ [b]) = cntB U + (if b = true then 1 else 0) := by unfold cntB; rw [List.count_append]; cases b <;> simp
  rcases Nat.lt_or_ge j (cntB U) with h | h
  · obtain ⟨p, hp, hc⟩ := ih h
    have hl := Bd.getElem?_lt hp
    refine ⟨p, ?_, ?_⟩
    · unfold Mk; rw [List.getElem?_append_left hl]; exact hp
    · rw [List.take_append_of_le_length (by omega)]; exact hc
  · have hb : b = true := by
      cases b
      · rw [e] at hj; simp at hj; omega
      · rfl
    subst hb
    rw [if_pos rfl] at e
    refine ⟨U.length, ?_, ?_⟩
    · unfold Mk; rw [List.getElem?_append_right (Nat.le_refl _)]; simp
    · rw [List.take_append_of_le_length (Nat.le_refl _), List.take_length]; omega

/-- The functions that are told in one table are those that are told in the other one. -/
structure Alikes (L : List Nd) (roots : List Nat) (LQ : List Nd) (T : List Bool) : Prop where
  to : ∀ n, n ∈ roots → ∃ r, Mk T r ∧ Bd.den LQ (r + 2) = Bd.den L n
  back : ∀ r, Mk T r → ∃ n, n ∈ roots ∧ Bd.den L n = Bd.den LQ (r + 2)
section
variable {bits : Nat} {L LQ : List Nd} {roots : List Nat} {U T : List Bool}
/-- The nodes of some parts of told functions are no more than the marks. -/
theorem marks_ge (hQ : Bd.Okay bits LQ) (hT : T.length = LQ.length) (hM : Marks LQ U T) (n : Nat) (g : Nat → Bd.Fn) (hg : ∀ i, i < n → g i ≠ Bd.ff ∧ g i ≠ Bd.tt ∧ ∃ r, Mk T r ∧ Part (Bd.den LQ (r + 2)) (g i)) (hinj : ∀ i j, i < n → j < n → g i = g j → i = j) : n ≤ cntB U := by
  have key : ∀ i, i < n → ∃ p, Mk U p ∧ Bd.den LQ (p + 2) = g i := fun i hi => by
    obtain ⟨h0, h1, r, hr, hP⟩ := hg i hi
    have hrl := Bd.getElem?_lt hr
    obtain ⟨m, hR, hd⟩ := hP.node hQ (by omega)
    have h2 : 2 ≤ m := by
      rcases Nat.lt_or_ge m 2 with h | h
      · exfalso
        have : m = 0 ∨ m = 1 := by omega
        rcases this with rfl | rfl
        · exact h0 (by rw [← hd, Bd.den_zero])
        · exact h1 (by rw [← hd, Bd.den_one])
      · exact h
    refine ⟨m - 2, (hM _).2 ⟨r, hr, ?_⟩, ?_⟩
    · rw [show m - 2 + 2 = m by omega]; exact hR
    · rw [show m - 2 + 2 = m by omega]; exact hd
  have hx : ∃ φ : Nat → Nat, ∀ i, i < n → Mk U (φ i) ∧ Bd.den LQ (φ i + 2) = g i := ⟨fun i => if h : i < n then (key i h).choose else 0, fun i hi => by simp only [dif_pos hi]; exact (key i hi).choose_spec⟩
  obtain ⟨φ, hφ⟩ := hx
  refine Bd.pigeon (cntB U) n (fun i => cntB (U.take (φ i))) (fun i hi => cntB_take_lt (hφ i hi).1) (fun i j hi hj e => hinj i j hi hj ?_)
  have := cntB_inj (hφ i hi).1 (hφ j hj).1 e
  rw [← (hφ i hi).2, ← (hφ j hj).2, this]
/-- The marks are no more than the nodes of a table that has all that is told. -/
theorem marks_le (hL : Bd.Okay bits L) (hQ : Bd.Okay bits LQ) (hr : ∀ n, n ∈ roots → n < L.length + 2) (hT : T.length = LQ.length) (hM : Marks LQ U T) (hA : Alikes L roots LQ T) : cntB U ≤ L.length := by
  have hne : ∀ m, 2 ≤ m → m < LQ.length + 2 → Bd.den LQ m ≠ Bd.ff ∧ Bd.den LQ m ≠ Bd.tt := fun m h2 hm => by
    refine ⟨fun e => ?_, fun e => ?_⟩
    · have := Bd.canon hQ hm (m := 0) (by omega) (by rw [e, Bd.den_zero]); omega
    · have := Bd.canon hQ hm (m := 1) (by omega) (by rw [e, Bd.den_one]); omega
  have key : ∀ j, j < cntB U → ∃ p i, Mk U p ∧ cntB (U.take p) = j ∧ i < L.length ∧ p < LQ.length ∧ Bd.den L (i + 2) = Bd.den LQ (p + 2) := fun j hj => by
    obtain ⟨p, hp, hc⟩ := cntB_at hj
    obtain ⟨r, hr', hR⟩ := (hM p).1 hp
    obtain ⟨n, hn, hd⟩ := hA.back r hr'
    have hrl := Bd.getElem?_lt hr'
    have hpl := (Reach.lt hQ (by omega) hR).1
    have hP := hR.part hQ (by omega)
    rw [← hd] at hP
    obtain ⟨m, hRm, hdm⟩ := hP.node hL (hr n hn)
    have hml := (Reach.lt hL (hr n hn) hRm).1
    have hq := hne (p + 2) (by omega) hpl
    have h2 : 2 ≤ m := by
      rcases Nat.lt_or_ge m 2 with h | h
      · exfalso
        have : m = 0 ∨ m = 1 := by omega
        rcases this with rfl | rfl
        · exact hq.1 (by rw [← hdm, Bd.den_zero])
        · exact hq.2 (by rw [← hdm, Bd.den_one])
      · exact h
    exact ⟨p, m - 2, hp, hc, by omega, by omega, by rw [show m - 2 + 2 = m by omega]; exact hdm⟩
  have hx : ∃ φ ψ : Nat → Nat, ∀ j, j < cntB U → Mk U (φ j) ∧ cntB (U.take (φ j)) = j ∧ ψ j < L.length ∧ φ j < LQ.length ∧ Bd.den L (ψ j + 2) = Bd.den LQ (φ j + 2) :=
    ⟨fun j => if h : j < cntB U then (key j h).choose else 0, fun j => if h : j < cntB U then (key j h).choose_spec.choose else 0, fun j hj => by simp only [dif_pos hj]; exact (key j hj).choose_spec.choose_spec⟩
  obtain ⟨φ, ψ, hφ⟩ := hx
  refine Bd.pigeon L.length (cntB U) ψ (fun j hj => (hφ j hj).2.2.1) (fun i j hi hj e => ?_)
  obtain ⟨_, b1, _, d1, e1⟩ := hφ i hi
  obtain ⟨_, b2, _, d2, e2⟩ := hφ j hj
  have hd : Bd.den LQ (φ i + 2) = Bd.den LQ (φ j + 2) := by rw [← e1, ← e2, e]
  have := Bd.canon hQ (n := φ i + 2) (m := φ j + 2) (by omega) (by omega) hd
  have h' : φ i = φ j := by omega
  rw [← b1, ← b2, h']
end
end Go.Proofs.Ytnkipdlfpnmgeaa
namespace Go.Proofs.Ytnkipdlfpnmgeaa
open Bd (Nd)

theorem part_ff {f g : Bd.Fn} (h : Part f g) : f = Bd.ff → g = Bd.ff := by
  intro e
  induction h with
  | self => exact e
  | cof _ _ _ ih => rw [ih]; rfl
theorem part_tt {f g : Bd.Fn} (h : Part f g) : f = Bd.tt → g = Bd.tt := by
  intro e
  induction h with
  | self => exact e
  | cof _ _ _ ih => rw [ih]; rfl

/-- Of a family the parts of one function, and what is in a table already. -/
def subFam {bits M : Nat} (A : Bd.Fam bits M) {L : List Nd} (hL : Bd.Okay bits L) (f : Bd.Fn) : Bd.Fam bits M where
  F k g := A.F k g ∧ (Part f g ∨ ∃ m, m < L.length + 2 ∧ Bd.den L m = g)
  dep k g h := A.dep k g h.1
  go k g b hk h := by
    have h1 := A.dep k g h.1
    have hf := hL.few
    refine ⟨A.go k g b hk h.1, ?_⟩
    rcases h.2 with hp | ⟨m, hm, rfl⟩
    · exact Or.inl (.cof hp h1 (by omega))
    · right
      have hb := Bd.bit_ge hL hm h1 (by omega)
      obtain ⟨d0, d1⟩ := Bd.den_half hL hm (k := k) (by omega) hb
      obtain ⟨l0, l1⟩ := Bd.lo_lt hL hm (k := k) (by omega)
      cases b
      · exact ⟨_, l0, d0⟩
      · exact ⟨_, l1, d1⟩
  en := A.en
  all k g hk h := A.all k g hk h.1
section
variable {bits M : Nat} {A : Bd.Fam bits M} {L N : List Nd} {f : Bd.Fn}
theorem subFam_within (hL : Bd.Okay bits L) (hW : Bd.Within A L) : Bd.Within (subFam A hL f) L := fun i x hx => ⟨hW i x hx, Or.inr ⟨i + 2, by have := Bd.getElem?_lt hx; omega, rfl⟩⟩
theorem subFam_up (hL : Bd.Okay bits L) {L' : List Nd} (h : Bd.Within (subFam A hL f) L') : Bd.Within A L' := fun i x hx => (h i x hx).1
theorem subFam_new (hL : Bd.Okay bits L) (hLN : Bd.Okay bits (L ++ N)) (h : Bd.Within (subFam A hL f) (L ++ N)) (i : Nat) (h1 : L.length ≤ i) (h2 : i < (L ++ N).length) : Part f (Bd.den (L ++ N) (i + 2)) := by
  obtain ⟨x, hx⟩ : ∃ x, (L ++ N)[i]? = some x := ⟨_, List.getElem?_eq_getElem h2⟩
  rcases (h i x hx).2 with hp | ⟨m, hm, hd⟩
  · exact hp
  · exfalso
    rw [← Bd.den_append_old L N hm] at hd
    have := Bd.canon hLN (n := m) (m := i + 2) (by rw [List.length_append]; omega) (by omega) hd
    omega
/-- A function of the small family that has no node is a part. -/
theorem subFam_no (hL : Bd.Okay bits L) {k : Nat} {g : Bd.Fn} (h : (subFam A hL f).F k g) (h0 : g ≠ Bd.ff) (h1 : g ≠ Bd.tt) (hno : ∀ i, i < (L ++ N).length → Bd.den (L ++ N) (i + 2) ≠ g) : Part f g := by
  rcases h.2 with hp | ⟨m, hm, hd⟩
  · exact hp
  · exfalso
    rcases Nat.lt_or_ge m 2 with h2 | h2
    · have : m = 0 ∨ m = 1 := by omega
      rcases this with rfl | rfl
      · exact h0 (by rw [← hd, Bd.den_zero])
      · exact h1 (by rw [← hd, Bd.den_one])
    · refine hno (m - 2) (by rw [List.length_append]; omega) ?_
      rw [show m - 2 + 2 = m by omega, Bd.den_append_old L N hm]
      exact hd
end

/-- The program's table has just what its functions need; the document's marks are those of its functions; and the functions are the same ones. -/
structure Exact (L : List Nd) (roots : List Nat) (LQ : List Nd) (U T : List Bool) : Prop where
  cover : Cover L roots
  marks : Marks LQ U T
  alike : Alikes L roots LQ T

theorem told_mk {s : QSt} {a : Nat} (hT : s.T.length = s.L.length) (ha : a < s.L.length + 2) (r : Nat) : Mk (s.tell a).T r ↔ ((2 ≤ a ∧ r = a - 2) ∨ Mk s.T r) := by
  show Mk (if a < 2 then s.T else s.T.set (a - 2) true) r ↔ _
  by_cases h2 : a < 2
  · rw [if_pos h2]
    constructor
    · exact Or.inr
    · rintro (h | h)
      · omega
      · exact h
  · rw [if_neg h2, mk_set (by omega)]
    constructor
    · rintro (h | h)
      · exact Or.inl ⟨by omega, h⟩
      · exact Or.inr h
    · rintro (h | h)
      · exact Or.inl h.2
      · exact Or.inr h
theorem grow_lens {s : QSt} (hU : s.U.length = s.L.length) (hT : s.T.length = s.L.length) (N : List Nd) : (s.grow N).U.length = (s.grow N).L.length ∧ (s.grow N).T.length = (s.grow N).L.length := by
  constructor
  · show (s.U ++ List.replicate N.length false).length = (s.L ++ N).length
    rw [List.length_append, List.length_append, List.length_replicate, hU]
  · show (s.T ++ List.replicate N.length false).length = (s.L ++ N).length
    rw [List.length_append, List.length_append, List.length_replicate, hT]

section
variable {bits : Nat} {L N NQ : List Nd} {roots t : List Nat} {sq : QSt} {r : Nat} {f : Bd.Fn}
theorem node_ne {L : List Nd} (hL : Bd.Okay bits L) {m : Nat} (h2 : 2 ≤ m) (hm : m < L.length + 2) : Bd.den L m ≠ Bd.ff ∧ Bd.den L m ≠ Bd.tt := by
  refine ⟨fun e => ?_, fun e => ?_⟩
  · have := Bd.canon hL hm (m := 0) (by omega) (by rw [e, Bd.den_zero]); omega
  · have := Bd.canon hL hm (m := 1) (by omega) (by rw [e, Bd.den_one]); omega
theorem two_le {L : List Nd} {m : Nat} (h : Bd.den L m ≠ Bd.ff ∧ Bd.den L m ≠ Bd.tt) : 2 ≤ m := by
  rcases Nat.lt_or_ge m 2 with h2 | h2
  · exfalso
    have : m = 0 ∨ m = 1 := by omega
    rcases this with rfl | rfl
    · exact h.1 (by rw [Bd.den_zero])
    · exact h.2 (by rw [Bd.den_one])
  · exact h2
theorem Alikes.grow (hA : Alikes L roots sq.L sq.T) (hT : sq.T.length = sq.L.length) : Alikes L roots (sq.grow NQ).L (sq.grow NQ).T := by
  refine ⟨fun n hn => ?_, fun r0 h0 => ?_⟩
  · obtain ⟨r0, h0, hd⟩ := hA.to n hn
    have := Bd.getElem?_lt h0
    exact ⟨r0, mk_app.2 h0, by show Bd.den (sq.L ++ NQ) _ = _; rw [Bd.den_append_old _ _ (by omega)]; exact hd⟩
  · have h1 := mk_app.1 h0
    obtain ⟨n, hn, hd⟩ := hA.back r0 h1
    have := Bd.getElem?_lt h1
    exact ⟨n, hn, by show _ = Bd.den (sq.L ++ NQ) _; rw [Bd.den_append_old _ _ (by omega)]; exact hd⟩
/-- The document's table has nodes more. -/
theorem Exact.grow (hX : Exact L roots sq.L sq.U sq.T) (hQ : Bd.Okay bits sq.L) (hT : sq.T.length = sq.L.length) : Exact L roots (sq.grow NQ).L (sq.grow NQ).U (sq.grow NQ).T :=
  ⟨hX.cover, hX.marks.grow hQ hT NQ, hX.alike.grow hT⟩

/-- A function is told in both. -/
theorem Exact.told (hX : Exact L roots sq.L sq.U sq.T) (hL : Bd.Okay bits L) (hLN : Bd.Okay bits (L ++ N)) (hQ : Bd.Okay bits sq.L) (hQN : Bd.Okay bits (sq.L ++ NQ)) (hU : sq.U.length = sq.L.length) (hT : sq.T.length = sq.L.length)
    (hro : ∀ n, n ∈ roots → n < L.length + 2) (hron : ∀ n, n ∈ roots ++ t → 2 ≤ n ∧ n < (L ++ N).length + 2) {m : Nat} (hm : m < (L ++ N).length + 2) (hmf : Bd.den (L ++ N) m = f) (hmr : 2 ≤ m → m ∈ roots ++ t) (htm : ∀ n, n ∈ t → n = m)
    (hr : r < (sq.L ++ NQ).length + 2) (hrf : Bd.den (sq.L ++ NQ) r = f) (hN : ∀ i, L.length ≤ i → i < (L ++ N).length → Part f (Bd.den (L ++ N) (i + 2))) :
    Exact (L ++ N) (roots ++ t) ((sq.grow NQ).tell r).L ((sq.grow NQ).tell r).U ((sq.grow NQ).tell r).T ∧ cntB ((sq.grow NQ).tell r).U ≤ (L ++ N).length := by
  obtain ⟨lU, lT⟩ := grow_lens hU hT NQ
  have M1 : Marks (sq.grow NQ).L (sq.grow NQ).U (sq.grow NQ).T := hX.marks.grow hQ hT NQ
  have M2 : Marks (sq.grow NQ).L ((sq.grow NQ).tell r).U ((sq.grow NQ).tell r).T := Marks.tell (s := sq.grow NQ) hQN lU lT M1 hr
  have A1 : Alikes L roots (sq.grow NQ).L (sq.grow NQ).T := hX.alike.grow hT
  have A2 : Alikes (L ++ N) (roots ++ t) (sq.grow NQ).L ((sq.grow NQ).tell r).T := by
    refine ⟨fun n hn => ?_, fun r0 h0 => ?_⟩
    · rcases List.mem_append.1 hn with h | h
      · obtain ⟨r0, h0, hd⟩ := A1.to n h
        exact ⟨r0, (told_mk lT hr r0).2 (Or.inr h0), by rw [Bd.den_append_old L N (hro n h)]; exact hd⟩
      · have e := htm n h
        subst e
        have h2 : 2 ≤ r := by
          have h3 := node_ne hLN (hron n hn).1 hm
          rw [hmf, ← hrf] at h3
          exact two_le h3
        refine ⟨r - 2, (told_mk lT hr _).2 (Or.inl ⟨h2, rfl⟩), ?_⟩
        rw [show r - 2 + 2 = r by omega, hmf]
        exact hrf
    · rcases (told_mk lT hr r0).1 h0 with ⟨h2, rfl⟩ | h1
      · have h3 := node_ne hQN h2 hr
        rw [hrf, ← hmf] at h3
        refine ⟨m, hmr (two_le h3), ?_⟩
        rw [show r - 2 + 2 = r by omega, hmf]
        exact hrf.symm
      · obtain ⟨n, hn, hd⟩ := A1.back r0 h1
        exact ⟨n, List.mem_append_left _ hn, by rw [Bd.den_append_old L N (hro n hn)]; exact hd⟩
  have hcov : Cover (L ++ N) (roots ++ t) := Cover.more hL hLN hX.cover hm hmr (fun i h1 h2 => by rw [hmf]; exact hN i h1 h2)
  have lT2 : ((sq.grow NQ).tell r).T.length = (sq.grow NQ).L.length := by
    show (if r < 2 then (sq.grow NQ).T else (sq.grow NQ).T.set (r - 2) true).length = _
    split
    · exact lT
    · rw [List.length_set]; exact lT
  exact ⟨⟨hcov, M2, A2⟩, marks_le hLN hQN (fun n hn => (hron n hn).2) lT2 M2 A2⟩

/-- A function that has no room in one has none in the other. -/
theorem Exact.full (hX : Exact L roots sq.L sq.U sq.T) (hL : Bd.Okay bits L) (hLN : Bd.Okay bits (L ++ N)) (hQ : Bd.Okay bits sq.L) (hQN : Bd.Okay bits (sq.L ++ NQ)) (hU : sq.U.length = sq.L.length) (hT : sq.T.length = sq.L.length)
    (hro : ∀ n, n ∈ roots → n < L.length + 2) (hr : r < (sq.L ++ NQ).length + 2) (hrf : Bd.den (sq.L ++ NQ) r = f) (hN : ∀ i, L.length ≤ i → i < (L ++ N).length → Part f (Bd.den (L ++ N) (i + 2)))
    {g : Bd.Fn} (hp : Part f g) (h0 : g ≠ Bd.ff) (h1 : g ≠ Bd.tt) (hno : ∀ i, i < (L ++ N).length → Bd.den (L ++ N) (i + 2) ≠ g) : (L ++ N).length < cntB ((sq.grow NQ).tell r).U := by
  obtain ⟨lU, lT⟩ := grow_lens hU hT NQ
  have M1 : Marks (sq.grow NQ).L (sq.grow NQ).U (sq.grow NQ).T := hX.marks.grow hQ hT NQ
  have M2 : Marks (sq.grow NQ).L ((sq.grow NQ).tell r).U ((sq.grow NQ).tell r).T := Marks.tell (s := sq.grow NQ) hQN lU lT M1 hr
  have A1 : Alikes L roots (sq.grow NQ).L (sq.grow NQ).T := hX.alike.grow hT
  have lT2 : ((sq.grow NQ).tell r).T.length = (sq.grow NQ).L.length := by
    show (if r < 2 then (sq.grow NQ).T else (sq.grow NQ).T.set (r - 2) true).length = _
    split
    · exact lT
    · rw [List.length_set]; exact lT
  have told : ∀ h, Part f h → h ≠ Bd.ff → h ≠ Bd.tt → ∃ r0, Mk ((sq.grow NQ).tell r).T r0 ∧ Part (Bd.den (sq.grow NQ).L (r0 + 2)) h := by
    intro h hh e0 e1
    have h2 : 2 ≤ r := by
      refine two_le (L := sq.L ++ NQ) ⟨fun e => ?_, fun e => ?_⟩
      · exact e0 (part_ff hh (hrf.symm.trans e))
      · exact e1 (part_tt hh (hrf.symm.trans e))
    refine ⟨r - 2, (told_mk lT hr _).2 (Or.inl ⟨h2, rfl⟩), ?_⟩
    rw [show r - 2 + 2 = r by omega]
    rw [show Bd.den (sq.grow NQ).L r = f from hrf]
    exact hh
  obtain ⟨φ, hφ⟩ : ∃ φ : Nat → Bd.Fn, φ = fun i => if i < (L ++ N).length then Bd.den (L ++ N) (i + 2) else g := ⟨_, rfl⟩
  have φ0 : ∀ i, i < (L ++ N).length → φ i = Bd.den (L ++ N) (i + 2) := fun i hi => by rw [hφ]; exact if_pos hi
  have φ1 : ∀ i, ¬ i < (L ++ N).length → φ i = g := fun i hi => by rw [hφ]; exact if_neg hi
  have key := marks_ge (bits := bits) hQN lT2 M2 ((L ++ N).length + 1) φ (fun i hi => ?_) (fun i j hi hj e => ?_)
  · exact key
  · by_cases h : i < (L ++ N).length
    · rw [φ0 i h]
      have hne := node_ne hLN (m := i + 2) (by omega) (by omega)
      refine ⟨hne.1, hne.2, ?_⟩
      rcases Nat.lt_or_ge i L.length with hi2 | hi2
      · obtain ⟨n, hn, hR⟩ := hX.cover i hi2
        obtain ⟨r0, h0', hd⟩ := A1.to n hn
        refine ⟨r0, (told_mk lT hr r0).2 (Or.inr h0'), ?_⟩
        have hd' : Bd.den (sq.L ++ NQ) (r0 + 2) = Bd.den L n := hd
        rw [hd', Bd.den_append_old L N (by omega)]
        exact hR.part hL (hro n hn)
      · exact told _ (hN i hi2 h) hne.1 hne.2
    · rw [φ1 i h]
      exact ⟨h0, h1, told g hp h0 h1⟩
  · by_cases h : i < (L ++ N).length
    · by_cases h' : j < (L ++ N).length
      · rw [φ0 i h, φ0 j h'] at e
        have := Bd.canon hLN (n := i + 2) (m := j + 2) (by omega) (by omega) e
        omega
      · rw [φ0 i h, φ1 j h'] at e
        exact (hno i h e).elim
    · by_cases h' : j < (L ++ N).length
      · rw [φ1 i h, φ0 j h'] at e
        exact (hno j h' e.symm).elim
      · omega
end
end Go.Proofs.Ytnkipdlfpnmgeaa
