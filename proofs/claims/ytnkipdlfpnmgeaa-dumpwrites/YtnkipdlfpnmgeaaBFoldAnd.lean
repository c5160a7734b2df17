/-
  drop: all nodes but the first ones go.
  What shrink leaves: the nodes that one needs, each with its meaning.
  nodes: an order as a list.
  visit: the order of a list.
  And of two.
  fold of two: And, Or.
-/
import Derived.Test.YtnkipdlfpnmgeaaWordsAnd
import Derived.Maps.RangeWalk
namespace Go.Proofs.Ytnkipdlfpnmgeaa
open Go.RowKit Go.Maps
open Bd (Nd)

theorem step_any' (w : World) (tb : Nat) (room : Int) :
    Calls Try.prog 47 #[.pointer (some ⟨tb, 3, none⟩), .int .i64 room] w fun e w' => e = .returned (.pointer (some ⟨w.heap.size + 1, 0, none⟩)) ∧ w' = (w.alloc (.map #[] 0)).alloc (.cells #[.pointer (some ⟨tb, 3, none⟩), .int .i64 room, .map (some w.heap.size)] 133) := by
  have hmm := @run_makeMap Try.prog
  go_enter Try.func47, Try.ntmps47
  go_wp2
  go_ret
  exact ⟨rfl, rfl⟩

/-- What fold is handed to join with: three numbers for two. -/
structure Joins (fj : FuncId) (jn : Nat → Nat → Nat × Nat × Nat) : Prop where
  enter : ∀ args w, (callFunc fj args).run Try.prog w = .ok (.enter fj args) w
  calls : ∀ (w : World) (a b : Nat), Calls Try.prog fj #[i6 a, i6 b] w fun e w' => e = .returned (.agg #[i6 (jn a b).1, i6 (jn a b).2.1, i6 (jn a b).2.2]) ∧ Below w.heap.size w w'

/-- A step of fold, where its first number makes no node. -/
theorem fold_first {w : World} {y : Lay} {s : St} (_hT : Tab w y s) (fj : FuncId) (jn : Nat → Nat → Nat × Nat × Nat) (hJ : Joins fj jn) (e0 n0 : Nat) (room : Int)
    (hq : ∀ (W : World) (p : Value), Calls Try.prog 76 #[p, .agg #[i6 (jn e0 n0).1, i6 (jn e0 n0).2.1, i6 (jn e0 n0).2.2]] W fun e w' => e = .returned (i6 n0) ∧ Below W.heap.size W w') (W : World) (hB : Below w.heap.size w W) :
    Calls Try.prog 47 #[.pointer (some ⟨y.tb, 3, none⟩), .int .i64 room] W fun e w1 => ∃ p, e = .returned p ∧ Hid (Calls Try.prog fj #[i6 e0, i6 n0] w1 fun e w2 => ∃ v, e = .returned v ∧ Hid (Calls Try.prog 76 #[p, v] w2 fun e w3 => e = .returned (i6 n0) ∧ Below w.heap.size w w3)) := by
  refine (step_any' W y.tb room).mono ?_
  rintro e w1 ⟨rfl, rfl⟩
  refine ⟨_, rfl, ?_⟩
  have h1 : Below W.heap.size W ((W.alloc (.map #[] 0)).alloc (.cells #[.pointer (some ⟨y.tb, 3, none⟩), .int .i64 room, .map (some W.heap.size)] 133)) := ((Below.refl _ _).alloc (Nat.le_refl _) _).alloc (by simp) _
  refine (hJ.calls _ e0 n0).mono ?_
  rintro e w2 ⟨rfl, hb2⟩
  refine ⟨_, rfl, ?_⟩
  refine (hq w2 _).mono ?_
  rintro e w3 ⟨rfl, hb3⟩
  exact ⟨rfl, (hB.trans ((h1.trans (hb2.mono h1.size)).mono hB.size)).trans (hb3.mono (by have := hB.size; have := h1.size; have := hb2.size; omega))⟩

/-- A step of fold. -/
theorem fold_step {M : Nat} {w : World} {y : Lay} {s : St} (A : Bd.Fam s.bits M) (hT : Tab w y s) (hW : Bd.Within A s.L) (hbM : s.bits * M ≤ 1048576) (fj : FuncId) (jn : Nat → Nat → Nat × Nat × Nat) (hJ : Joins fj jn) (a b : Nat) (room : Nat) (hroom : s.bits * M ≤ room) (hr3 : room ≤ 1073741824)
    (h1 : (jn a b).1 < s.L.length + 2) (h2 : (jn a b).2.1 < s.L.length + 2) (h3 : (jn a b).2.2 < s.L.length + 2) (hF : A.F 0 (Bd.iteF (Bd.den s.L (jn a b).1) (Bd.den s.L (jn a b).2.1) (Bd.den s.L (jn a b).2.2))) (W : World) (hB : Below w.heap.size w W) :
    Calls Try.prog 47 #[.pointer (some ⟨y.tb, 3, none⟩), .int .i64 room] W fun e w1 => ∃ p, e = .returned p ∧ Hid (Calls Try.prog fj #[i6 a, i6 b] w1 fun e w2 => ∃ v, e = .returned v ∧ Hid (Calls Try.prog 76 #[p, v] w2 fun e w3 => ∃ r, e = .returned (i6 r) ∧
      Hid (Grew noX A w y s w3 r (Bd.iteF (Bd.den s.L (jn a b).1) (Bd.den s.L (jn a b).2.1) (Bd.den s.L (jn a b).2.2))))) := by
  refine (step_any' W y.tb room).mono ?_
  rintro e w1 ⟨rfl, rfl⟩
  refine ⟨_, rfl, ?_⟩
  obtain ⟨s1, s2, s3⟩ := step_new W y.tb room
  have hbw := hB.trans (s3.mono hB.size)
  refine (hJ.calls _ a b).mono ?_
  rintro e w2 ⟨rfl, hb2⟩
  refine ⟨_, rfl, ?_⟩
  have hb2' : Below W.heap.size W w2 := s3.trans (hb2.mono s3.size)
  have hbw2 : Below w.heap.size w w2 := hB.trans (hb2'.mono hB.size)
  have l1 := block_lt s1
  have l2 := s2.lt
  have hzW := hB.size
  have hns : ¬ y.own (W.heap.size + 1) := fun ho => by have := hT.lt ho; omega
  have hnk : ¬ y.own W.heap.size := fun ho => by have := hT.lt ho; omega
  refine (ite_all 128 s A w2 y (W.heap.size + 1) room W.heap.size 0 (fun _ => none) _ _ _ 0 (hT.below hbw2) hW ((hb2.block _ l1).trans s1) hns hnk hroom hr3 hbM (s2.same (hb2.block _ l2)) (known_none _) h1 h2 h3 (Nat.zero_le _) (Nat.zero_le _) (Nat.zero_le _) hF (by omega)).mono ?_
  rintro e w3 ⟨r, rfl, ⟨N, y3, t3, wi3, hr, d3, m3, _⟩⟩
  refine ⟨r, rfl, N, y3, t3, wi3, hr, d3, ?_⟩
  have z := hbw2.size
  have mA := (moves_below (X := fun k => k = W.heap.size) y hbw2).trans m3
  exact ⟨mA.tb, mA.own, mA.os, mA.tape, mA.output, mA.size, fun k hk hn _ => mA.block k hk hn (fun e => by omega)⟩

set_option maxRecDepth 3000 in
set_option maxHeartbeats 4000000 in
theorem fold_two {M : Nat} {w : World} {y : Lay} {s : St} (A : Bd.Fam s.bits M) (hT : Tab w y s) (hW : Bd.Within A s.L) (hlim : s.bits * M ≤ s.limit) (fj : FuncId) (jn : Nat → Nat → Nat × Nat × Nat) (hJ : Joins fj jn) (e0 n0 n1 g : Nat) (hNA : NodesAt w g [n0, n1])
    (hq : ∀ (W : World) (p : Value), Calls Try.prog 76 #[p, .agg #[i6 (jn e0 n0).1, i6 (jn e0 n0).2.1, i6 (jn e0 n0).2.2]] W fun e w' => e = .returned (i6 n0) ∧ Below W.heap.size W w')
    (h1 : (jn n0 n1).1 < s.L.length + 2) (h2 : (jn n0 n1).2.1 < s.L.length + 2) (h3 : (jn n0 n1).2.2 < s.L.length + 2) (hF : A.F 0 (Bd.iteF (Bd.den s.L (jn n0 n1).1) (Bd.den s.L (jn n0 n1).2.1) (Bd.den s.L (jn n0 n1).2.2))) :
    Calls Try.prog 53 #[.pointer (some ⟨y.tb, 0, none⟩), .slice (some ⟨g, 0, none⟩) 2 2, i6 e0, .func (.func fj) #[] #[]] w fun e w' => ∃ r, e = .returned (i6 r) ∧ Grew noX A w y s w' r (Bd.iteF (Bd.den s.L (jn n0 n1).1) (Bd.den s.L (jn n0 n1).2.1) (Bd.den s.L (jn n0 n1).2.2)) := by
  obtain ⟨cs, g0, gs, gc⟩ := hNA
  have k0 : w.cell? ⟨g, 0, none⟩ = some (.int .i64 n0) := by rw [cell_at g0]; exact gc 0 n0 rfl
  have k1 : w.cell? ⟨g, 1, none⟩ = some (.int .i64 n1) := by rw [cell_at g0]; exact gc 1 n1 rfl
  have lg := block_lt g0
  have ltb := hT.lt y.own_tb
  obtain ⟨ao, cap, hls⟩ := hT.list_slice
  have c3 := hT.cell3
  rw [hls] at c3
  have c6 : w.cell? ⟨y.tb, 6, none⟩ = some (.int .i64 s.limit) := by rw [cell_at hT.cells]; rfl
  have hsl := hT.small
  have HF1 := keep (fun (W : World) (hB : Below w.heap.size w W) (room : Int) => fold_first hT fj jn hJ e0 n0 room hq W hB)
  have HF2 := keep (fun (W : World) (hB : Below w.heap.size w W) => fold_step A hT hW (by omega) fj jn hJ n0 n1 s.limit hlim (by omega) h1 h2 h3 hF W hB)
  have hent := hJ.enter
  obtain ⟨f, hf⟩ : ∃ f, f = Bd.iteF (Bd.den s.L (jn n0 n1).1) (Bd.den s.L (jn n0 n1).2.1) (Bd.den s.L (jn n0 n1).2.2) := ⟨_, rfl⟩
  rw [← hf] at HF2 ⊢
  obtain ⟨len, hlen⟩ : ∃ len, len = s.L.length := ⟨_, rfl⟩
  rw [← hlen] at c3
  have hlen2 : len ≤ 1073741824 := by omega
  have eroom : (len : Int) + (s.limit : Int) - (len : Int) = (s.limit : Int) := by omega
  have HF2 : Hid (∀ W, Below w.heap.size w W → Calls Try.prog 47 #[.pointer (some ⟨y.tb, 3, none⟩), .int .i64 ((len : Int) + (s.limit : Int) - (len : Int))] W fun e w1 => ∃ p, e = .returned p ∧ Hid (Calls Try.prog fj #[i6 n0, i6 n1] w1 fun e w2 => ∃ v, e = .returned v ∧ Hid (Calls Try.prog 76 #[p, v] w2 fun e w3 => ∃ r, e = .returned (i6 r) ∧ Hid (Grew noX A w y s w3 r f)))) := by
    rw [eroom]; exact HF2.out
  clear eroom
  have hlimI : (s.limit : Int) ≤ 1048576 := by omega
  have hlenI : (len : Int) ≤ 1073741824 := by omega
  clear hT hW hlim hJ hq h1 h2 h3 hF g0 gs gc hls hsl hf hlen
  go_enter Try.func53, Try.ntmps53
  go_wp2_with fail
  go_loopw [2, 24] (fun u i wr => (i = .int .i64 0 ∧ u = .int .i64 e0 ∧ Below w.heap.size w wr) ∨ (i = .int .i64 1 ∧ u = .int .i64 n0 ∧ Below w.heap.size w wr) ∨ (i = .int .i64 2 ∧ ∃ r : Nat, u = .int .i64 r ∧ Hid (Grew noX A w y s wr r f))) (fun _ i _ => 2 - (intOf i).toNat)
  case atStart => exact Or.inl ⟨rfl, rfl, Below.refl _ _⟩
  case round =>
    rcases hrel with ⟨rfl, rfl, hB⟩ | ⟨rfl, rfl, hB⟩ | ⟨rfl, r, rfl, HG⟩
    · have j0 : wr.cell? ⟨g, 0, none⟩ = some (.int .i64 n0) := by rw [hB.cell (by exact lg)]; exact k0
      have j3 : wr.cell? ⟨y.tb, 3, none⟩ = some (.slice ao len cap) := by rw [hB.cell (by exact ltb)]; exact c3
      have HB := keep hB
      clear hB
      go_wp2_with fail
      go_quiet (fail)
      go_wp2_with fail
      refine (HF1.out _ (belowN HB.out _) _).mono ?_
      rintro e w1 ⟨p, rfl, HJ1⟩
      go_wp2_with fail
      refine HJ1.out.mono ?_
      rintro e w2 ⟨v, rfl, HI1⟩
      go_wp2_with fail
      refine HI1.out.mono ?_
      rintro e w3 ⟨rfl, hb3⟩
      go_wp2_with fail
      go_roundw
      case rel => exact Or.inr (Or.inl ⟨rfl, rfl, hb3⟩)
      case measure => simp [intOf]
    · have j1 : wr.cell? ⟨g, 1, none⟩ = some (.int .i64 n1) := by rw [hB.cell (by exact lg)]; exact k1
      have j3 : wr.cell? ⟨y.tb, 3, none⟩ = some (.slice ao len cap) := by rw [hB.cell (by exact ltb)]; exact c3
      have j6 : wr.cell? ⟨y.tb, 6, none⟩ = some (.int .i64 s.limit) := by rw [hB.cell (by exact ltb)]; exact c6
      have HB := keep hB
      clear hB
      go_wp2_with fail
      go_quiet (fail)
      go_wp2_with fail
      refine (HF2.out _ (belowN HB.out _)).mono ?_
      rintro e w1 ⟨p, rfl, HJ1⟩
      go_wp2_with fail
      refine HJ1.out.mono ?_
      rintro e w2 ⟨v, rfl, HI1⟩
      go_wp2_with fail
      refine HI1.out.mono ?_
      rintro e w3 ⟨r, rfl, HG⟩
      go_wp2_with fail
      go_roundw
      case rel => exact Or.inr (Or.inr ⟨rfl, r, rfl, HG⟩)
      case measure => simp [intOf]
    · go_wp2_with fail
      go_ret
      exact ⟨r, rfl, HG.out⟩
end Go.Proofs.Ytnkipdlfpnmgeaa
namespace Go.Proofs.Ytnkipdlfpnmgeaa
open Go.RowKit Go.Maps
open Bd (Nd)

end Go.Proofs.Ytnkipdlfpnmgeaa
namespace Go.Proofs.Ytnkipdlfpnmgeaa
open Go.RowKit Go.Maps
open Bd (Nd)

/-- The numbers that a node needs, in the order of a list, behind those that are there already; those below least are left out. -/
def vis (L : List Nd) (least : Nat) : Nat → Nat → List Nat → List Nat
  | 0, _, acc => acc
  | k + 1, n, acc => if n < least then acc else if n ∈ acc then acc else vis L least k (L.getD (n - 2) (0, 0, 0)).2.2 (vis L least k (L.getD (n - 2) (0, 0, 0)).2.1 acc) ++ [n]

/-- Nodes lead to lesser numbers. -/
def Falls (L : List Nd) : Prop := ∀ i x, L[i]? = some x → x.2.1 < i + 2 ∧ x.2.2 < i + 2
theorem Bd.Okay.falls {bits : Nat} {L : List Nd} (h : Bd.Okay bits L) : Falls L := fun i x hx => ⟨(h.fit i x hx).1, (h.fit i x hx).2.1⟩

theorem Falls.at {L : List Nd} (h : Falls L) {n : Nat} (h2 : 2 ≤ n) (hn : n < L.length + 2) : (L.getD (n - 2) (0, 0, 0)).2.1 < n ∧ (L.getD (n - 2) (0, 0, 0)).2.2 < n ∧ L[n - 2]? = some (L.getD (n - 2) (0, 0, 0)) := by
  have hx : L[n - 2]? = some L[n - 2] := List.getElem?_eq_getElem (by omega)
  have e : L.getD (n - 2) (0, 0, 0) = L[n - 2] := by rw [List.getD_eq_getElem?_getD, hx]; rfl
  have := h _ _ hx
  rw [e]
  exact ⟨by omega, by omega, hx⟩

theorem vis_mem (L : List Nd) (least : Nat) (hL : Falls L) (h2 : 2 ≤ least) : ∀ k n acc m, n < L.length + 2 → m ∈ vis L least k n acc → m ∈ acc ∨ (m ≤ n ∧ least ≤ m) := by
  intro k
  induction k with
  | zero => intro n acc m _ hm; exact Or.inl hm
  | succ k ih =>
    intro n acc m hn hm
    unfold vis at hm
    split at hm
    · exact Or.inl hm
    · rename_i hl
      split at hm
      · exact Or.inl hm
      · have hF := hL.at (n := n) (by omega) hn
        rw [List.mem_append] at hm
        rcases hm with hm | hm
        · rcases ih _ _ m (by omega) hm with h | h
          · rcases ih _ _ m (by omega) h with h | h
            · exact Or.inl h
            · exact Or.inr ⟨by omega, h.2⟩
          · exact Or.inr ⟨by omega, h.2⟩
        · simp at hm
          subst hm
          exact Or.inr ⟨Nat.le_refl _, by omega⟩
theorem vis_nodup (L : List Nd) (least : Nat) (hL : Falls L) (h2 : 2 ≤ least) : ∀ k n acc, n < L.length + 2 → acc.Nodup → (vis L least k n acc).Nodup := by
  intro k
  induction k with
  | zero => intro n acc _ h; exact h
  | succ k ih =>
    intro n acc hn h
    unfold vis
    split
    · exact h
    · split
      · exact h
      · rename_i hl hm
        have hF := hL.at (n := n) (by omega) hn
        rw [List.nodup_append]
        refine ⟨ih _ _ (by omega) (ih _ _ (by omega) h), by simp, ?_⟩
        intro a ha b hb e
        simp at hb
        subst hb
        subst e
        rcases vis_mem L least hL h2 _ _ _ _ (by omega) ha with h | h
        · rcases vis_mem L least hL h2 _ _ _ _ (by omega) h with h | h
          · exact hm h
          · omega
        · omega
/-- The numbers that are there lie in the list. -/
theorem vis_lt (L : List Nd) (least : Nat) (hL : Falls L) (h2 : 2 ≤ least) (k n : Nat) (acc : List Nat) (hn : n < L.length + 2) (hacc : ∀ m ∈ acc, least ≤ m ∧ m < L.length + 2) : ∀ m ∈ vis L least k n acc, least ≤ m ∧ m < L.length + 2 := by
  intro m hm
  rcases vis_mem L least hL h2 k n acc m hn hm with h | h
  · exact hacc m h
  · exact ⟨h.2, by omega⟩

/-- A map whose keys are no negative numbers. -/
def Nats (f : Value → Option Int) : Prop := ∀ x : Int, (f (.int .i64 x)).isSome = true → 0 ≤ x
theorem Nats.put {f f' : Value → Option Int} (h : Nats f) {n : Nat} {c : Int} (hu : Upd f (i6 n) (some c) f') : Nats f' := by
  intro x hx
  by_cases e : (Value.int .i64 x) = i6 n
  · have : x = (n : Int) := by cases e; rfl
    omega
  · rw [hu.2 _ e] at hx; exact h x hx

/-- An order in memory. -/
structure OrdAt (w : World) (ob pb : Nat) (lv : Value) (L : List Nd) (least : Nat) (acc : List Nat) : Prop where
  cells : w.heap[ob]? = some (.cells #[lv, i6 least, .map (some pb)] 118 (0, 0))
  list : w.ownsRow 0 62 3 lv L.length (flat L)
  place : ∃ f, MapOf Try.prog 3 3 w pb acc.length f ∧ RefMap least acc f ∧ Nats f

theorem OrdAt.apart {w : World} {ob pb : Nat} {lv : Value} {L : List Nd} {least : Nat} {acc : List Nat} (h : OrdAt w ob pb lv L least acc) : pb ≠ ob ∧ lv.ownBlock ≠ some pb ∧ pb < w.heap.size ∧ ob < w.heap.size := by
  obtain ⟨f, hf, _⟩ := h.place
  obtain ⟨es, c, hm⟩ := map_block hf
  refine ⟨?_, ?_, hf.lt, block_lt h.cells⟩
  · intro e; rw [e, h.cells] at hm; cases hm
  · intro e; obtain ⟨cur, hc⟩ := owned_cells h.list e; rw [hm] at hc; cases hc
/-- What a call may do to an order: its map, and new blocks. -/
structure Only (pb : Nat) (w w' : World) : Prop where
  os : w'.os = w.os
  tape : w'.tape = w.tape
  output : w'.output = w.output
  size : w.heap.size ≤ w'.heap.size
  block : ∀ k, k < w.heap.size → k ≠ pb → w'.heap[k]? = w.heap[k]?
theorem Only.refl (pb : Nat) (w : World) : Only pb w w := ⟨rfl, rfl, rfl, Nat.le_refl _, fun _ _ _ => rfl⟩
theorem Only.trans {pb : Nat} {w w1 w2 : World} (h : Only pb w w1) (h' : Only pb w1 w2) : Only pb w w2 :=
  ⟨h'.os.trans h.os, h'.tape.trans h.tape, h'.output.trans h.output, Nat.le_trans h.size h'.size, fun k hk hn => (h'.block k (Nat.lt_of_lt_of_le hk h.size) hn).trans (h.block k hk hn)⟩
theorem Only.of_below {pb : Nat} {w w' : World} (h : Below w.heap.size w w') : Only pb w w' := ⟨h.os, h.tape, h.output, h.size, fun k hk _ => h.block k hk⟩
theorem OrdAt.only {w w' : World} {ob pb : Nat} {lv : Value} {L : List Nd} {least : Nat} {acc acc' : List Nat} (h : OrdAt w ob pb lv L least acc) (hm : Only pb w w') (hp : ∃ f, MapOf Try.prog 3 3 w' pb acc'.length f ∧ RefMap least acc' f ∧ Nats f) : OrdAt w' ob pb lv L least acc' := by
  obtain ⟨a1, a2, a3, a4⟩ := h.apart
  exact ⟨(hm.block ob a4 (fun e => a1 e.symm)).trans h.cells, row_same h.list fun g hg => hm.block g (h.list.lt g hg).2 (fun e => a2 (by rw [← e]; exact hg)), hp⟩
theorem OrdAt.below {w w' : World} {ob pb : Nat} {lv : Value} {L : List Nd} {least : Nat} {acc : List Nat} (h : OrdAt w ob pb lv L least acc) (hb : Below w.heap.size w w') : OrdAt w' ob pb lv L least acc := by
  obtain ⟨f, hf, hr, hz⟩ := h.place
  exact h.only (Only.of_below hb) ⟨f, hf.same (hb.block _ hf.lt), hr, hz⟩

theorem MapOf.block {P : Program} {k e : TypeId} {w : World} {b sz : Nat} {f : Value → Option Int} (h : MapOf P k e w b sz f) : ∃ es c, w.heap[b]? = some (.map es c) ∧ es.size = sz := by
  obtain ⟨D, ⟨es, clock, hb, F, hs, hD⟩, h2, h3⟩ := h
  exact ⟨es, clock, hb, by rw [← h2, hD]; simp [Maps.size, length_sorted]⟩

set_option maxHeartbeats 4000000 in
theorem visit_any (ob pb : Nat) (lv : Value) (L : List Nd) (least : Nat) (hL : Falls L) (hlen : L.length ≤ 1073741824) (h2 : 2 ≤ least) (hle : least ≤ 1073741824) : ∀ (k n : Nat) (acc : List Nat) (w : World), n < k → n < L.length + 2 → OrdAt w ob pb lv L least acc → acc.Nodup → (∀ m ∈ acc, least ≤ m ∧ m < L.length + 2) →
    Calls Try.prog 65 #[.pointer (some ⟨ob, 0, none⟩), i6 n] w fun e w' => e = .returned (.tuple #[]) ∧ OrdAt w' ob pb lv L least (vis L least k n acc) ∧ Only pb w w' := by
  intro k
  induction k with
  | zero => intro n acc w h; omega
  | succ k ih =>
    intro n acc w hnk hn hO hnd hacc
    have c0 : w.cell? ⟨ob, 0, none⟩ = some lv := by rw [cell_at hO.cells]; rfl
    have c1 : w.cell? ⟨ob, 1, none⟩ = some (.int .i64 least) := by rw [cell_at hO.cells]; rfl
    have c2 : w.cell? ⟨ob, 2, none⟩ = some (.map (some pb)) := by rw [cell_at hO.cells]; rfl
    by_cases hl : n < least
    · have HR : Hid (OrdAt w ob pb lv L least (vis L least (k + 1) n acc)) := by
        have e : vis L least (k + 1) n acc = acc := by unfold vis; rw [if_pos hl]
        rw [e]; exact hO
      have hlI : (n : Int) < (least : Int) := by omega
      clear hO ih
      go_enter Try.func65, Try.ntmps65
      go_wp2_with fail
      exact bodyPost_ret (v := .tuple #[]) (by simp [results, Try.results65, go_sem]) rfl ⟨rfl, HR.out, Only.refl _ _⟩
    · have hlI : ¬ ((n : Int) < (least : Int)) := by omega
      obtain ⟨f, hf, hr, _⟩ := hO.place
      obtain ⟨kl, hkl⟩ := key_int (a := n) (by omega)
      have hlook := MapOf.look hf kInt Try.underlying116 Try.underlying3 (zero_int _) hkl
      by_cases hin : n ∈ acc
      · obtain ⟨j, hj, hx⟩ := List.getElem_of_mem hin
        have hx' : acc[j]? = some n := by rw [List.getElem?_eq_getElem hj, hx]
        have hfx : f (i6 n) = some ((least + j : Nat) : Int) := (hr n).1 j hx'
        rw [hfx] at hlook
        simp only [Option.getD_some, Option.isSome_some, i6] at hlook
        have HR : Hid (OrdAt w ob pb lv L least (vis L least (k + 1) n acc)) := by
          have e : vis L least (k + 1) n acc = acc := by unfold vis; rw [if_neg hl, if_pos hin]
          rw [e]; exact hO
        obtain ⟨q, hq⟩ : ∃ q, q = least + j := ⟨_, rfl⟩
        rw [← hq] at hlook
        clear hO ih hf hr hfx hx hx' hin hkl hj hq
        go_enter Try.func65, Try.ntmps65
        go_wp2_with fail
        exact bodyPost_ret (v := .tuple #[]) (by simp [results, Try.results65, go_sem]) rfl ⟨rfl, HR.out, Only.refl _ _⟩
      · have hfx : f (i6 n) = none := (hr n).2 hin
        rw [hfx] at hlook
        simp only [Option.getD_none, Option.isSome_none, i6] at hlook
        have hFall := hL.at (n := n) (by omega) hn
        have evis : vis L least (k + 1) n acc = vis L least k (L.getD (n - 2) (0, 0, 0)).2.2 (vis L least k (L.getD (n - 2) (0, 0, 0)).2.1 acc) ++ [n] := by
          conv => lhs; unfold vis
          rw [if_neg hl, if_neg hin]
        obtain ⟨x, hx⟩ : ∃ x, x = L.getD (n - 2) (0, 0, 0) := ⟨_, rfl⟩
        rw [← hx] at hFall evis
        obtain ⟨i, rfl⟩ : ∃ i, n = i + 2 := ⟨n - 2, by omega⟩
        have hxi : L[i]? = some x := by have := hFall.2.2; simpa using this
        obtain ⟨g, cap, hlv, _, hgl⟩ := hO.list.form (by omega)
        have hadd : ∀ j, (⟨g, 0, none⟩ : Addr).add j = ⟨g, j, none⟩ := by intro j; unfold Addr.add; split <;> simp_all
        obtain ⟨f0, f1, f2⟩ := flat_at hxi
        have hcl := hO.list.cells (g := g) (by rw [hlv]; rfl)
        have d0 := hcl _ _ f0
        have d1 := hcl _ _ f1
        have d2 := hcl _ _ f2
        rw [hadd] at d0 d1 d2
        rw [hlv] at c0
        have hap := hO.apart
        have hWb : Below w.heap.size w (w.alloc (.cells #[.int .i64 x.1, .int .i64 x.2.1, .int .i64 x.2.2] 62)) := (Below.refl _ _).alloc (Nat.le_refl _) _
        have hO1 := hO.below hWb
        have hbx := heap_alloc_new w (.cells #[.int .i64 x.1, .int .i64 x.2.1, .int .i64 x.2.2] 62)
        have HV : Hid (Calls Try.prog 65 #[.pointer (some ⟨ob, 0, none⟩), i6 x.2.1] (w.alloc (.cells #[.int .i64 x.1, .int .i64 x.2.1, .int .i64 x.2.2] 62)) fun e w1 => e = .returned (.tuple #[]) ∧ w1.cell? ⟨w.heap.size, 2, none⟩ = some (.int .i64 x.2.2) ∧
            Hid (Calls Try.prog 65 #[.pointer (some ⟨ob, 0, none⟩), i6 x.2.2] w1 fun e w2 => e = .returned (.tuple #[]) ∧ w2.cell? ⟨ob, 1, none⟩ = some (.int .i64 least) ∧ w2.cell? ⟨ob, 2, none⟩ = some (.map (some pb)) ∧ ∃ (q : Nat) (w4 : World), (Builtin.len_ #[116] 3 #[.map (some pb)]).run Try.prog w2.drew = .ok (.int .i64 q) w2.drew ∧ q ≤ 1073741826 ∧
              (Instr.mapUpdate 116 (.map (some pb)) (.int .i64 ((i : Int) + 2)) (.int .i64 ((least : Int) + (q : Int)))).run Try.prog w2.drew = .ok () w4 ∧ Hid (OrdAt w4 ob pb lv L least (vis L least (k + 1) (i + 2) acc) ∧ Only pb w w4))) := by
          refine (ih x.2.1 acc _ (by omega) (by omega) hO1 hnd hacc).mono ?_
          rintro e w1 ⟨rfl, o1, m1⟩
          have b1 := m1.block w.heap.size (by simp) (by omega)
          refine ⟨rfl, ?_, ?_⟩
          · have : w1.heap[w.heap.size]? = _ := b1.trans hbx
            rw [cell_at this]; rfl
          · refine (ih x.2.2 _ w1 (by omega) (by omega) o1 (vis_nodup L least hL h2 _ _ _ (by omega) hnd) (vis_lt L least hL h2 _ _ _ (by omega) hacc)).mono ?_
            rintro e w2 ⟨rfl, o2, m2⟩
            have hnd2 := vis_nodup L least hL h2 k x.2.2 _ (by omega) (vis_nodup L least hL h2 k x.2.1 acc (by omega) hnd)
            have hlt2 := vis_lt L least hL h2 k x.2.2 _ (by omega) (vis_lt L least hL h2 k x.2.1 acc (by omega) hacc)
            have hmem2 : i + 2 ∉ vis L least k x.2.2 (vis L least k x.2.1 acc) := by
              intro hm
              rcases vis_mem L least hL h2 _ _ _ _ (by omega) hm with h | h
              · rcases vis_mem L least hL h2 _ _ _ _ (by omega) h with h | h
                · exact hin h
                · omega
              · omega
            generalize vis L least k x.2.2 (vis L least k x.2.1 acc) = acc2 at *
            obtain ⟨fp, hfp, hrp, hzp⟩ := o2.place
            have hcount : acc2.length ≤ L.length + 2 := by
              refine Bd.pigeon (L.length + 2) acc2.length (fun j => acc2.getD j 0) ?_ ?_
              · intro j hj
                show acc2.getD j 0 < _
                rw [List.getD_eq_getElem?_getD, List.getElem?_eq_getElem hj]
                exact (hlt2 _ (List.getElem_mem hj)).2
              · intro p q hp hq hpq
                have hpq' : acc2.getD p 0 = acc2.getD q 0 := hpq
                rw [List.getD_eq_getElem?_getD, List.getElem?_eq_getElem hp, List.getD_eq_getElem?_getD, List.getElem?_eq_getElem hq] at hpq'
                exact (List.getElem_inj (h₀ := hp) (h₁ := hq) hnd2).1 hpq'
            obtain ⟨w4, hrun, hput, hg4⟩ := MapOf.put_run (w := w2.drew) (hfp.same rfl) kInt Try.underlying116 Try.underlying3 (by unfold maxLen; omega) hkl (c := ((least + acc2.length : Nat) : Int)) (wf64 (by omega))
            refine ⟨rfl, by rw [cell_at o2.cells]; rfl, by rw [cell_at o2.cells]; rfl, acc2.length, w4, (hfp.same (w' := w2.drew) rfl).len Try.underlying116 _, by omega, ?_, ?_⟩
            · have e1 : ((least + acc2.length : Nat) : Int) = (least : Int) + (acc2.length : Int) := by omega
              have e2 : ((i + 2 : Nat) : Int) = (i : Int) + 2 := by omega
              rw [← e1, ← e2]; exact hrun
            · have hm4 : Only pb w2 w4 := ⟨hg4.os, hg4.tape, hg4.output, hg4.size, fun j hj hne => hg4.block j hj (fun e => hne (by cases e; rfl))⟩
              rw [evis]
              obtain ⟨fn, hfn⟩ := upd_exists fp (i6 (i + 2)) (some ((least + acc2.length : Nat) : Int))
              have hfnone : fp (i6 (i + 2)) = none := (hrp _).2 hmem2
              have hm := hput fn hfn
              rw [hfnone] at hm
              refine ⟨o2.only hm4 ⟨fn, ?_, hrp.snoc hmem2 hfn, hzp.put hfn⟩, ((Only.of_below hWb).trans m1).trans (m2.trans hm4)⟩
              have e : (acc2 ++ [i + 2]).length = acc2.length + 1 := by simp
              rw [e]
              simpa using hm
        have e1 : ((i + 2 : Nat) : Int) = (i : Int) + 2 := by omega
        have hiI : (i : Int) < (L.length : Int) := by omega
        have hlenI : (L.length : Int) ≤ 1073741824 := by omega
        have hleI : (least : Int) ≤ 1073741824 := by omega
        simp only [i6, e1] at hlI hlook d0 d1 d2 ⊢
        obtain ⟨len, hlen0⟩ : ∃ len, len = L.length := ⟨_, rfl⟩
        rw [← hlen0] at c0 hiI hlenI
        clear hO ih hf hr hfx hin hkl hFall hx hxi hcl f0 f1 f2 hadd hO1 hWb hbx evis hlen0 hnd hacc hlv hnk hn
        go_enter Try.func65, Try.ntmps65
        go_wp2_with fail
        refine HV.out.mono ?_
        rintro e w1 ⟨rfl, q2, HV2⟩
        go_wp2_with fail
        refine HV2.out.mono ?_
        rintro e w2 ⟨rfl, p1, p2, q, w4, hln, hqz, hrun, HO⟩
        have hqI : (q : Int) ≤ 1073741826 := by omega
        go_wp2_with fail
        go_region
        go_end0
        exact ⟨rfl, HO.out⟩
end Go.Proofs.Ytnkipdlfpnmgeaa
namespace Go.Proofs.Ytnkipdlfpnmgeaa
open Go.RowKit Go.Maps
open Bd (Nd)

/-- A node's number in an order: its old one, if it is left out. -/
def nm (acc : List Nat) (least m : Nat) : Nat := if m ∈ acc then least + acc.idxOf m else m
theorem idx_at {acc : List Nat} {m : Nat} (h : m ∈ acc) : acc[acc.idxOf m]? = some m := by
  have hlt := List.idxOf_lt_length_of_mem h
  rw [List.getElem?_eq_getElem hlt, List.getElem_idxOf hlt]
theorem idx_of {acc : List Nat} (hnd : acc.Nodup) {j m : Nat} (h : acc[j]? = some m) : acc.idxOf m = j := by
  have hj := Bd.getElem?_lt h
  have hm : m ∈ acc := List.mem_of_getElem? h
  have h2 := idx_at hm
  have hlt := List.idxOf_lt_length_of_mem hm
  rw [List.getElem?_eq_getElem hlt] at h2
  rw [List.getElem?_eq_getElem hj] at h
  exact (List.getElem_inj (h₀ := hlt) (h₁ := hj) hnd).1 (by rw [Option.some.inj h2, Option.some.inj h])

def rn (L : List Nd) (acc : List Nat) (least n : Nat) : Nd := ((L.getD (n - 2) (0, 0, 0)).1, nm acc least (L.getD (n - 2) (0, 0, 0)).2.1, nm acc least (L.getD (n - 2) (0, 0, 0)).2.2)

set_option maxHeartbeats 1000000 in
theorem name_any {w : World} {ob pb : Nat} {lv : Value} {L : List Nd} {least : Nat} {acc : List Nat} (hO : OrdAt w ob pb lv L least acc) (m : Nat) (hm : m < 9223372036854775808) :
    Calls Try.prog 66 #[.pointer (some ⟨ob, 0, none⟩), i6 m] w fun e w' => e = .returned (i6 (nm acc least m)) ∧ w' = w := by
  have c2 : w.cell? ⟨ob, 2, none⟩ = some (.map (some pb)) := by rw [cell_at hO.cells]; rfl
  obtain ⟨f, hf, hr, _⟩ := hO.place
  obtain ⟨kl, hkl⟩ := key_int (a := m) hm
  have hlook := MapOf.look hf kInt Try.underlying116 Try.underlying3 (zero_int _) hkl
  by_cases hin : m ∈ acc
  · have hfx : f (i6 m) = some ((least + acc.idxOf m : Nat) : Int) := (hr m).1 _ (idx_at hin)
    rw [hfx] at hlook
    simp only [Option.getD_some, Option.isSome_some, i6] at hlook
    have e : nm acc least m = least + acc.idxOf m := by unfold nm; rw [if_pos hin]
    rw [e]
    obtain ⟨q, hq⟩ : ∃ q, q = least + acc.idxOf m := ⟨_, rfl⟩
    rw [← hq] at hlook ⊢
    clear hO hf hr hfx hin hkl hq e
    go_enter Try.func66, Try.ntmps66
    go_wp2_with fail
    go_ret
    exact ⟨rfl, rfl⟩
  · have hfx : f (i6 m) = none := (hr m).2 hin
    rw [hfx] at hlook
    simp only [Option.getD_none, Option.isSome_none, i6] at hlook
    have e : nm acc least m = m := by unfold nm; rw [if_neg hin]
    rw [e]
    clear hO hf hr hfx hin hkl e
    go_enter Try.func66, Try.ntmps66
    go_wp2_with fail
    go_ret
    exact ⟨rfl, rfl⟩

def blanks (n : Nat) : Array Value := madeCells #[.int .i64 0, .int .i64 0, .int .i64 0] (n * 3)
theorem blanks_size (n : Nat) : (blanks n).size = n * 3 := size_madeCells _ _
theorem run_blanks (n : Nat) (hn : n ≤ 1073741826) (w : World) :
    (Instr.makeSlice 41 (.int .i64 (n : Int)) (.int .i64 (n : Int))).run Try.prog w = .ok (.slice (some ⟨w.heap.size, 0, none⟩) n n) (w.alloc (.cells (blanks n) 62)) := by
  obtain ⟨i, hi, hz0, hz1, hz2⟩ := info_parts Try.infoNode
  have := run_make (P := Try.prog) w 41 62 i (.agg #[i6 0, i6 0, i6 0]) Try.underlying41 hi hz0 .i64 .i64 n n (by omega) (by omega) (by rw [hz2]; omega) (by omega)
  rw [this, hz1]
  rfl

/-- Three cells stored one behind the other. -/
def set3 (cs : Array Value) (x : Nat) (a b c : Value) : Array Value := ((cs.setIfInBounds x a).setIfInBounds (x + 1) b).setIfInBounds (x + 2) c
theorem set3_size (cs : Array Value) (x : Nat) (a b c : Value) : (set3 cs x a b c).size = cs.size := by simp [set3]
theorem set3_get (cs : Array Value) (x : Nat) (a b c : Value) (hx : x + 2 < cs.size) (z : Nat) : (set3 cs x a b c)[z]? = if z = x then some a else if z = x + 1 then some b else if z = x + 2 then some c else cs[z]? := by
  simp only [set3, Array.getElem?_setIfInBounds, Array.size_setIfInBounds]
  by_cases h0 : z = x
  · subst h0
    rw [if_neg (by omega), if_neg (by omega), if_pos rfl, if_pos (by omega), if_pos rfl]
  · by_cases h1 : z = x + 1
    · subst h1
      rw [if_neg (by omega), if_pos rfl, if_pos (by omega), if_neg (by omega), if_pos rfl]
    · by_cases h2 : z = x + 2
      · subst h2
        rw [if_pos rfl, if_pos (by omega), if_neg (by omega), if_neg (by omega), if_pos rfl]
      · rw [if_neg (by omega), if_neg (by omega), if_neg (by omega), if_neg h0, if_neg h1, if_neg h2]

/-- The cells of the new list, as far as the numbers of which done is told. -/
def Laid (cs : Array Value) (L : List Nd) (acc : List Nat) (least : Nat) (left : Lit → Bool) : Prop :=
  cs.size = acc.length * 3 ∧ ∀ (j n : Nat), acc[j]? = some n → left (.int .i64 (n : Int)) = false → cs[j * 3]? = some (i6 (rn L acc least n).1) ∧ cs[j * 3 + 1]? = some (i6 (rn L acc least n).2.1) ∧ cs[j * 3 + 2]? = some (i6 (rn L acc least n).2.2)
theorem Laid.put {cs : Array Value} {L : List Nd} {acc : List Nat} {least : Nat} {left : Lit → Bool} (hnd : acc.Nodup) (h : Laid cs L acc least left) {j n : Nat} (hj : acc[j]? = some n) (left' : Lit → Bool) (hl : ∀ m : Nat, m ≠ n → left' (.int .i64 (m : Int)) = left (.int .i64 (m : Int))) :
    Laid (set3 cs (j * 3) (i6 (rn L acc least n).1) (i6 (rn L acc least n).2.1) (i6 (rn L acc least n).2.2)) L acc least left' := by
  have hjl := Bd.getElem?_lt hj
  refine ⟨by rw [set3_size]; exact h.1, ?_⟩
  intro i m hi hm
  have hil := Bd.getElem?_lt hi
  have hsz := h.1
  rw [set3_get _ _ _ _ _ (by omega), set3_get _ _ _ _ _ (by omega), set3_get _ _ _ _ _ (by omega)]
  by_cases e : i = j
  · subst e
    rw [hj] at hi
    cases hi
    rw [if_pos rfl, if_neg (by omega), if_pos rfl, if_neg (by omega), if_neg (by omega), if_pos rfl]
    exact ⟨rfl, rfl, rfl⟩
  · have hmn : m ≠ n := by
      intro e2
      subst e2
      rw [List.getElem?_eq_getElem hjl] at hj
      rw [List.getElem?_eq_getElem hil] at hi
      exact e ((List.getElem_inj (h₀ := hil) (h₁ := hjl) hnd).1 (by rw [Option.some.inj hi, Option.some.inj hj]))
    rw [hl m hmn] at hm
    have := h.2 i m hi hm
    rw [if_neg (by omega), if_neg (by omega), if_neg (by omega), if_neg (by omega), if_neg (by omega), if_neg (by omega), if_neg (by omega), if_neg (by omega), if_neg (by omega)]
    exact this
end Go.Proofs.Ytnkipdlfpnmgeaa
namespace Go.Proofs.Ytnkipdlfpnmgeaa
open Bd (Nd)

/-- Each node's children lie ahead of it, or are left out. -/
def Closed (L : List Nd) (least : Nat) (acc : List Nat) : Prop := ∀ (j m : Nat), acc[j]? = some m → ∀ c, (c = (L.getD (m - 2) (0, 0, 0)).2.1 ∨ c = (L.getD (m - 2) (0, 0, 0)).2.2) → c < least ∨ ∃ i, i < j ∧ acc[i]? = some c

theorem vis_keeps (L : List Nd) (least : Nat) : ∀ k n acc m, m ∈ acc → m ∈ vis L least k n acc := by
  intro k
  induction k with
  | zero => intro n acc m hm; exact hm
  | succ k ih =>
    intro n acc m hm
    unfold vis
    split
    · exact hm
    · split
      · exact hm
      · exact List.mem_append_left _ (ih _ _ _ (ih _ _ _ hm))

theorem vis_has (L : List Nd) (least : Nat) : ∀ k n acc, n < k → n < least ∨ n ∈ vis L least k n acc := by
  intro k
  cases k with
  | zero => intro n acc h; omega
  | succ k =>
    intro n acc _
    unfold vis
    split
    · rename_i h; exact Or.inl h
    · split
      · rename_i h; exact Or.inr h
      · exact Or.inr (List.mem_append_right _ (by simp))

theorem vis_closed (L : List Nd) (least : Nat) (hL : Falls L) (h2 : 2 ≤ least) : ∀ k n acc, n < k → n < L.length + 2 → Closed L least acc → Closed L least (vis L least k n acc) := by
  intro k
  induction k with
  | zero => intro n acc h; omega
  | succ k ih =>
    intro n acc hk hn hC
    unfold vis
    split
    · exact hC
    · split
      · exact hC
      · rename_i hl hm
        have hF := hL.at (n := n) (by omega) hn
        have c1 := ih (L.getD (n - 2) (0, 0, 0)).2.1 acc (by omega) (by omega) hC
        have c2 := ih (L.getD (n - 2) (0, 0, 0)).2.2 _ (by omega) (by omega) c1
        generalize ha : vis L least k (L.getD (n - 2) (0, 0, 0)).2.2 (vis L least k (L.getD (n - 2) (0, 0, 0)).2.1 acc) = a2 at c2
        intro j m hj c hc
        rcases Nat.lt_or_ge j a2.length with h | h
        · rw [List.getElem?_append_left h] at hj
          rcases c2 j m hj c hc with h3 | ⟨i, hi, h3⟩
          · exact Or.inl h3
          · exact Or.inr ⟨i, hi, by rw [List.getElem?_append_left (by omega)]; exact h3⟩
        · rw [List.getElem?_append_right h] at hj
          have hj0 : j - a2.length = 0 := by
            have := Bd.getElem?_lt hj
            simp at this
            exact this
          rw [hj0] at hj
          simp at hj
          subst hj
          have hin : c < least ∨ c ∈ a2 := by
            rcases hc with e | e
            · rcases vis_has L least k c acc (by omega) with h3 | h3
              · exact Or.inl h3
              · right; rw [← ha]; exact vis_keeps _ _ _ _ _ _ (by rw [e] at h3 ⊢; exact h3)
            · rcases vis_has L least k c (vis L least k (L.getD (n - 2) (0, 0, 0)).2.1 acc) (by omega) with h3 | h3
              · exact Or.inl h3
              · right; rw [← ha]; rw [e] at h3 ⊢; exact h3
          rcases hin with h3 | h3
          · exact Or.inl h3
          · obtain ⟨i, hi, e⟩ := List.mem_iff_getElem.1 h3
            exact Or.inr ⟨i, by omega, by rw [List.getElem?_append_left hi, List.getElem?_eq_getElem hi, e]⟩

/-- What a node is called in the shrunken list has its meaning. -/
structure Shrunk (bits : Nat) (L : List Nd) (mark : Nat) (acc : List Nat) (j : Nat) : Prop where
  okay : Bd.Okay bits (L.take mark ++ (acc.map (rn L acc (mark + 2))).take j)
  den : ∀ i m, i < j → acc[i]? = some m → Bd.den (L.take mark ++ (acc.map (rn L acc (mark + 2))).take j) (mark + 2 + i) = Bd.den L m

theorem okay_take {bits : Nat} {L : List Nd} (h : Bd.Okay bits L) (k : Nat) : Bd.Okay bits (L.take k) := by
  refine { few := h.few, nd := h.nd.sublist (List.take_sublist _ _), fit := fun i x hx => ?_ }
  have hi := Bd.getElem?_lt hx
  rw [List.length_take] at hi
  rw [List.getElem?_take_of_lt (by omega)] at hx
  obtain ⟨a, b, c, d, e, f⟩ := h.fit i x hx
  have hb : ∀ n, n < i + 2 → Bd.bitOf (L.take k) n = Bd.bitOf L n := by
    intro n hn
    have := Bd.bitOf_old (L.take k) (L.drop k) (n := n) (by rw [List.length_take]; omega)
    rw [List.take_append_drop] at this
    exact this.symm
  exact ⟨a, b, c, d, by rw [hb _ a]; exact e, by rw [hb _ b]; exact f⟩
theorem den_take (L : List Nd) (k : Nat) {n : Nat} (hn : n < (L.take k).length + 2) : Bd.den (L.take k) n = Bd.den L n := by
  have := Bd.den_append_old (L.take k) (L.drop k) hn
  rw [List.take_append_drop] at this
  exact this.symm

theorem shrunk_all {bits : Nat} {L : List Nd} (hL : Bd.Okay bits L) {mark : Nat} (hm : mark ≤ L.length) {acc : List Nat} (hnd : acc.Nodup) (hacc : ∀ m, m ∈ acc → mark + 2 ≤ m ∧ m < L.length + 2) (hC : Closed L (mark + 2) acc) : ∀ j, j ≤ acc.length → Shrunk bits L mark acc j := by
  have hlen : (L.take mark).length = mark := by rw [List.length_take]; omega
  intro j
  induction j with
  | zero =>
    intro _
    refine ⟨by rw [List.take_zero, List.append_nil]; exact okay_take hL mark, fun i m hi => by omega⟩
  | succ j ih =>
    intro hj
    have S := ih (by omega)
    obtain ⟨m, hmj⟩ : ∃ m, acc[j]? = some m := ⟨acc[j]'(by omega), List.getElem?_eq_getElem _⟩
    have hmem : m ∈ acc := List.mem_of_getElem? hmj
    obtain ⟨b1, b2⟩ := hacc m hmem
    have hxL : L[m - 2]? = some (L.getD (m - 2) (0, 0, 0)) := (hL.falls.at (n := m) (by omega) b2).2.2
    have hml : m - 2 < L.length := by omega
    obtain ⟨f1, f2, f3, f4, f5, f6⟩ := hL.fit _ _ hxL
    have hdm : Bd.den L m = Bd.mux (L.getD (m - 2) (0, 0, 0)).1 (Bd.den L (L.getD (m - 2) (0, 0, 0)).2.1) (Bd.den L (L.getD (m - 2) (0, 0, 0)).2.2) := by
      have := Bd.den_at hL hxL
      rw [show m - 2 + 2 = m by omega] at this
      exact this
    have hMj : (acc.map (rn L acc (mark + 2)))[j]? = some (rn L acc (mark + 2) m) := by rw [List.getElem?_map, hmj]; rfl
    have eT : (acc.map (rn L acc (mark + 2))).take (j + 1) = (acc.map (rn L acc (mark + 2))).take j ++ [rn L acc (mark + 2) m] := by
      rw [List.take_add_one, hMj]; rfl
    have hTl : ((acc.map (rn L acc (mark + 2))).take j).length = j := by rw [List.length_take, List.length_map]; omega
    generalize hP : L.take mark ++ (acc.map (rn L acc (mark + 2))).take j = Q
    have hQl : Q.length = mark + j := by rw [← hP, List.length_append, hlen, hTl]
    have hold : ∀ n, n < mark + 2 → Bd.den Q n = Bd.den L n := by
      intro n hn
      rw [← hP, Bd.den_append_old _ _ (by omega)]
      exact den_take L mark (by omega)
    -- a child: its new number, and its meaning
    have child : ∀ c, (c = (L.getD (m - 2) (0, 0, 0)).2.1 ∨ c = (L.getD (m - 2) (0, 0, 0)).2.2) → nm acc (mark + 2) c < Q.length + 2 ∧ Bd.den Q (nm acc (mark + 2) c) = Bd.den L c := by
      intro c hc
      unfold nm
      by_cases hin : c ∈ acc
      · rw [if_pos hin]
        have hcl := (hacc c hin).1
        rcases hC j m hmj c hc with h3 | ⟨i, hi, h3⟩
        · omega
        · have e := idx_of hnd h3
          rw [e]
          refine ⟨by omega, ?_⟩
          rw [← hP]
          exact S.den i c hi h3
      · rw [if_neg hin]
        rcases hC j m hmj c hc with h3 | ⟨i, hi, h3⟩
        · exact ⟨by omega, hold c h3⟩
        · exact absurd (List.mem_of_getElem? h3) hin
    obtain ⟨l1, l2⟩ := child _ (Or.inl rfl)
    obtain ⟨r1, r2⟩ := child _ (Or.inr rfl)
    have hQ : Bd.Okay bits Q := by rw [← hP]; exact S.okay
    have hnew : Bd.mux (rn L acc (mark + 2) m).1 (Bd.den Q (rn L acc (mark + 2) m).2.1) (Bd.den Q (rn L acc (mark + 2) m).2.2) = Bd.den L m := by
      rw [hdm, ← l2, ← r2]; rfl
    have hO : Bd.Okay bits (Q ++ [rn L acc (mark + 2) m]) := by
      refine hQ.snoc ?_ l1 r1 ?_ f4 ?_ ?_
      · intro hin
        obtain ⟨i, hi, e⟩ := List.mem_iff_getElem.1 hin
        have hi' : Q[i]? = some (rn L acc (mark + 2) m) := by rw [List.getElem?_eq_getElem hi, e]
        have d1 := Bd.den_at hQ hi'
        rw [hnew] at d1
        rcases Nat.lt_or_ge i mark with h | h
        · rw [hold _ (by omega)] at d1
          have := Bd.canon hL (by omega) b2 d1
          omega
        · obtain ⟨q, hq⟩ : ∃ q, acc[i - mark]? = some q := ⟨acc[i - mark]'(by omega), List.getElem?_eq_getElem _⟩
          have d2 := S.den (i - mark) q (by omega) hq
          rw [hP, show mark + 2 + (i - mark) = i + 2 by omega, d1] at d2
          have hq2 := hacc q (List.mem_of_getElem? hq)
          have := Bd.canon hL b2 hq2.2 d2
          subst this
          have e1 := idx_of hnd hq
          have e2 := idx_of hnd hmj
          omega
      · intro e
        have : Bd.den L (L.getD (m - 2) (0, 0, 0)).2.1 = Bd.den L (L.getD (m - 2) (0, 0, 0)).2.2 := by
          rw [← l2, ← r2]
          exact congrArg (Bd.den Q) e
        exact f3 (Bd.canon hL (by omega) (by omega) this)
      · have := Bd.bit_ge hQ l1 (k := (L.getD (m - 2) (0, 0, 0)).1 + 1) (by rw [l2]; exact (Bd.from_den hL _ (by omega)).mono f5) (by have := hL.few; omega)
        exact this
      · have := Bd.bit_ge hQ r1 (k := (L.getD (m - 2) (0, 0, 0)).1 + 1) (by rw [r2]; exact (Bd.from_den hL _ (by omega)).mono f6) (by have := hL.few; omega)
        exact this
    have eQ : L.take mark ++ (acc.map (rn L acc (mark + 2))).take (j + 1) = Q ++ [rn L acc (mark + 2) m] := by rw [eT, ← List.append_assoc, hP]
    refine ⟨by rw [eQ]; exact hO, fun i q hi hq => ?_⟩
    rw [eQ]
    rcases Nat.lt_or_ge i j with h | h
    · rw [Bd.den_snoc_old _ _ (by omega)]
      have := S.den i q h hq
      rw [hP] at this
      exact this
    · have : i = j := by omega
      subst this
      rw [hmj] at hq
      cases hq
      rw [show mark + 2 + i = Q.length + 2 by omega, Bd.den_snoc_new]
      exact hnew
end Go.Proofs.Ytnkipdlfpnmgeaa
namespace Go.Proofs.Ytnkipdlfpnmgeaa
open Go.RowKit Go.Maps
open Bd (Nd)

theorem MapOf.drop_run {P : Program} {k e t : TypeId} {w : World} {b sz : Nat} {f : Value → Option Int} (h : MapOf P k e w b sz f) (K : Keyed P k) (ht : P.underlying t = some (.map k e)) {key : Value} {kl : Lit} (hkey : keyOf P k key = some kl) (ty : TypeId) :
    ∃ w', (Builtin.delete_ #[t, k] ty #[.map (some b), key]).run P w = .ok (.tuple #[]) w' ∧ (∀ f', Upd f key none f' → MapOf P k e w' b (if (f key).isSome then sz - 1 else sz) f') ∧ w.grownBy w' (some b) := by
  obtain ⟨D, h1, h2, h3⟩ := h
  obtain ⟨w', hrun, h4, h5⟩ := h1.drop K ht hkey ty
  refine ⟨w', hrun, fun f' hf' => ?_, h5.grown⟩
  have hs : Maps.size (D.del kl) = if (f key).isSome then sz - 1 else sz := by
    have := Maps.size_del (k := kl) (h1.tidy K)
    rw [(h3 key kl hkey).1, h2] at this
    split at this
    · rename_i hh; rw [if_pos hh]; omega
    · rename_i hh; rw [if_neg hh]; omega
  refine ⟨D.del kl, ?_, hs, ?_⟩
  · have := owns_tight h4
    rw [hs] at this
    exact this
  · intro key' kl' hk'
    by_cases e1 : key' = key
    · subst e1
      have : kl' = kl := by rw [hkey] at hk'; cases hk'; rfl
      subst this
      rw [hf'.1]
      exact ⟨by rw [Maps.has_del_same]; rfl, fun c' hc' => by cases hc'⟩
    · have hne : kl' ≠ kl := fun e2 => e1 (K.inj hk' (by rw [e2]; exact hkey))
      rw [hf'.2 _ e1, Maps.has_del_other hne, Maps.atKey_del_other hne]
      exact h3 key' kl' hk'

/-- The map of a list from which k nodes behind the first ones are gone. -/
def AtGap (L : List Nd) (mark k : Nat) (f : Value → Option Int) : Prop := ∀ x : Nd, (∀ i, L[i]? = some x → (i < mark ∨ mark + k ≤ i) → f (ndV x) = some ((i + 2 : Nat) : Int)) ∧ ((x ∉ L ∨ ∃ i, L[i]? = some x ∧ mark ≤ i ∧ i < mark + k) → f (ndV x) = none)
theorem AtGap.start {L : List Nd} {f : Value → Option Int} (h : AtMap L f) (mark : Nat) : AtGap L mark 0 f := fun x => ⟨fun i hi _ => (h x).1 i hi, fun hx => by
  rcases hx with hx | ⟨i, _, h1, h2⟩
  · exact (h x).2 hx
  · omega⟩
theorem AtGap.done {L : List Nd} {f : Value → Option Int} {mark : Nat} (_hnd : L.Nodup) (h : AtGap L mark (L.length - mark) f) : AtMap (L.take mark) f := by
  intro x
  refine ⟨fun i hi => ?_, fun hx => ?_⟩
  · have hl := Bd.getElem?_lt hi
    rw [List.length_take] at hl
    rw [List.getElem?_take_of_lt (by omega)] at hi
    exact (h x).1 i hi (Or.inl (by omega))
  · refine (h x).2 ?_
    by_cases hm : x ∈ L
    · obtain ⟨i, hi, e⟩ := List.mem_iff_getElem.1 hm
      have hi' : L[i]? = some x := by rw [List.getElem?_eq_getElem hi, e]
      rcases Nat.lt_or_ge i mark with h1 | h1
      · exfalso
        apply hx
        exact List.mem_iff_getElem.2 ⟨i, by rw [List.length_take]; omega, by rw [List.getElem_take]; exact e⟩
      · exact Or.inr ⟨i, hi', h1, by omega⟩
    · exact Or.inl hm
theorem nd_inj {x z : Nd} (h : ndV x = ndV z) : x = z := by
  unfold ndV at h
  simp [i6] at h
  obtain ⟨a, b, c⟩ := h
  exact Prod.ext (by omega) (Prod.ext (by omega) (by omega))
theorem AtGap.next {L : List Nd} {f f' : Value → Option Int} {mark k : Nat} {x : Nd} (hnd : L.Nodup) (h : AtGap L mark k f) (hx : L[mark + k]? = some x) (hu : Upd f (ndV x) none f') : AtGap L mark (k + 1) f' := by
  intro z
  by_cases e : z = x
  · subst e
    refine ⟨fun i hi hc => ?_, fun _ => hu.1⟩
    have hi1 := Bd.getElem?_lt hi
    have hi2 := Bd.getElem?_lt hx
    rw [List.getElem?_eq_getElem hi1] at hi
    rw [List.getElem?_eq_getElem hi2] at hx
    have : L[i] = L[mark + k] := by rw [Option.some.inj hi, Option.some.inj hx]
    have := (List.getElem_inj (h₀ := hi1) (h₁ := hi2) hnd).1 this
    omega
  · have hne : ndV z ≠ ndV x := fun e2 => e (nd_inj e2)
    rw [hu.2 _ hne]
    refine ⟨fun i hi hc => (h z).1 i hi (by
      rcases hc with hc | hc
      · exact Or.inl hc
      · exact Or.inr (by omega)), fun hz => (h z).2 ?_⟩
    rcases hz with hz | ⟨i, hi, h1, h2⟩
    · exact Or.inl hz
    · refine Or.inr ⟨i, hi, h1, ?_⟩
      rcases Nat.lt_or_ge i (mark + k) with h3 | h3
      · exact h3
      · have : i = mark + k := by omega
        subst this
        rw [hx] at hi
        cases hi
        exact absurd rfl e

/-- What drop has left when k nodes are gone. -/
structure Gap (w wr : World) (y : Lay) (L : List Nd) (mark k : Nat) : Prop where
  nodes : ∃ f, MapOf Try.prog 62 3 wr y.mb (L.length - k) f ∧ AtGap L mark k f
  os : wr.os = w.os
  tape : wr.tape = w.tape
  output : wr.output = w.output
  size : w.heap.size ≤ wr.heap.size
  block : ∀ j, j < w.heap.size → j ≠ y.mb → wr.heap[j]? = w.heap[j]?

theorem drop_tab {w wr : World} {y : Lay} {s : St} {mark : Nat} (hT : Tab w y s) (hm : mark ≤ s.L.length) (hr : ∀ n, n ∈ s.roots → n < mark + 2) (hG : Gap w wr y s.L mark (s.L.length - mark)) (ao : Option Addr) (cap : Nat) (hls : y.ls = .slice ao s.L.length cap) :
    Tab (wr.setCell ⟨y.tb, 3, none⟩ (.slice ao mark cap)) { y with ls := .slice ao mark cap } { s with L := s.L.take mark } ∧ Moves noX w y (wr.setCell ⟨y.tb, 3, none⟩ (.slice ao mark cap)) { y with ls := .slice ao mark cap } := by
  obtain ⟨a1, a2, a3, a4, a5, a6, a7, a8, a9⟩ := hT.apart
  have hlen : (s.L.take mark).length = mark := by rw [List.length_take]; omega
  have ltb := hT.lt y.own_tb
  have hown : (Value.slice ao mark cap).ownBlock = y.ls.ownBlock := by rw [hls]; cases ao <;> rfl
  have hcells : wr.heap[y.tb]? = _ := (hG.block y.tb ltb (fun e => a1 e.symm)).trans hT.cells
  have hset := set_block (o := 3) (.slice ao mark cap) hcells
  obtain ⟨f, hf, ha⟩ := hG.nodes
  obtain ⟨fr, hfr, hrr⟩ := hT.refs
  refine ⟨{ cells := ?_, list := ?_, roots := ?_, nodes := ⟨f, ?_, ha.done hT.okay.nd⟩, refs := ⟨fr, ?_, hrr⟩, two := hT.two, okay := okay_take hT.okay mark, small := ?_, valid := ⟨hT.valid.1, fun n hn => ?_⟩ }, ?_⟩
  · rw [hset]; rfl
  · show World.ownsRow _ 0 62 3 (.slice ao mark cap) (s.L.take mark).length (flat (s.L.take mark))
    have hl := hT.list
    rw [hls] at hl
    have htr : w.ownsRow 0 62 3 (.slice ao mark cap) mark (flat (s.L.take mark)) := by
      refine ⟨by rw [flat_length, hlen], ?_⟩
      rcases hl.2 with ⟨h1, h2⟩ | ⟨g, c, cur, h1, h2, h3, h4, h5, h6, h7⟩
      · injection h1 with e1 e2 e3
        subst e1
        subst e3
        have : mark = 0 := by omega
        rw [this]
        exact Or.inl ⟨rfl, rfl⟩
      · injection h1 with e1 e2 e3
        subst e1
        subst e3
        refine Or.inr ⟨g, cap, cur, rfl, h2, h3, by omega, h5, h6, ?_⟩
        have e : flat s.L = flat (s.L.take mark) ++ flat (s.L.drop mark) := by
          unfold flat
          rw [← List.flatMap_append, List.take_append_drop]
        have e2 : cur.toList.take (mark * 3) = (cur.toList.take (s.L.length * 3)).take (mark * 3) := by rw [List.take_take, Nat.min_eq_left (by omega)]
        rw [e2, h7, e, List.take_left' (by rw [flat_length, hlen])]
    rw [hlen]
    refine row_same htr fun g hg => ?_
    rw [hown] at hg
    rw [set_other _ (show g ≠ y.tb from fun e => a3 (by rw [← e]; exact hg))]
    exact hG.block g (hT.lt (y.own_ls hg)) (fun e => a5 (by rw [← e]; exact hg))
  · refine row_same hT.roots fun g hg => ?_
    rw [set_other _ (show g ≠ y.tb from fun e => a4 (by rw [← e]; exact hg))]
    exact hG.block g (hT.lt (y.own_rs hg)) (fun e => a6 (by rw [← e]; exact hg))
  · show MapOf _ _ _ _ y.mb (s.L.take mark).length f
    rw [hlen]
    have e : s.L.length - (s.L.length - mark) = mark := by omega
    rw [e] at hf
    exact hf.same (set_other _ a1)
  · refine hfr.same ?_
    rw [set_other _ a2]
    exact hG.block y.rm hfr.lt (fun e => hT.two e.symm)
  · have := hT.small
    refine ⟨?_, this.2.1, this.2.2.1, this.2.2.2.1, this.2.2.2.2⟩
    show (s.L.take mark).length ≤ _
    omega
  · have := hT.valid.2 n hn
    exact ⟨this.1, by show n < (s.L.take mark).length + 2; rw [hlen]; exact hr n hn⟩
  · refine ⟨rfl, ?_, hG.os, hG.tape, hG.output, by simpa using hG.size, ?_⟩
    · intro k hk
      rcases hk with h | h | h | h | h
      · exact Or.inl (Or.inl h)
      · exact Or.inl (Or.inr (Or.inl h))
      · exact Or.inl (Or.inr (Or.inr (Or.inl h)))
      · exact Or.inl (y.own_ls (by rw [← hown]; exact h))
      · exact Or.inl (y.own_rs h)
    · intro k hk hn _
      rw [set_other _ (fun e => hn (Or.inl e))]
      exact hG.block k hk (fun e => hn (Or.inr (Or.inl e)))
end Go.Proofs.Ytnkipdlfpnmgeaa
