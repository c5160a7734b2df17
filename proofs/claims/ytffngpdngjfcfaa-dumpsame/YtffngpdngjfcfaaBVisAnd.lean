/-
  root, List, Size of a ref that is told; two lists that are the same.
  orderOf of one node; root, List, Size of a ref that is told; two lists that are the same.
  nodes: the walk.
  nodes: an order as a list.
  visit: the order of a list.
-/
import Derived.Test.YtffngpdngjfcfaaReadAnd
import Derived.Maps.RangeWalk
import Derived.Test.YtffngpdngjfcfaaBFindAnd
namespace Go.Proofs.Ytffngpdngjfcfaa
open Go.RowKit Go.Maps
open Bd (Nd)

/-- The numbers that a node needs, in the order of a list, behind those that are there already; those below least are left out. -/
def vis (L : List Nd) (least : Nat) : Nat → Nat → List Nat → List Nat
  | 0, _, acc => acc
  | k + 1, n, acc => if n < least then acc else if n ∈ acc then acc else vis L least k (L.getD (n - 2) (0, 0, 0)).2.2 (vis L least k (L.getD (n - 2) (0, 0, 0)).2.1 acc) ++ [n]

/-- Nodes lead to lesser numbers. -/
def Falls (L : List Nd) : Prop := ∀ i x, L[i]? = some x → x.2.1 < i + 2 ∧ x.2.2 < i + 2
theorem Bd.Okay.falls {bits : Nat} {L : List Nd} (h : Bd.Okay bits L) : Falls L := fun i x hx => ⟨(h.fit i x hx).1, (h.fit i x hx).2.1⟩

theorem Falls.at {L : List Nd} (h : Falls L) {n : Nat} (h2 : 2 ≤ n) (hn : n < L.length + 2) : (L.getD (n - 2) (0, 0, 0)).2.1 < n ∧ (L.getD (n - 2) (0, 0, 0)).2.2 < n ∧ L[n - 2]? = some (L.getD (n - 2) (0, 0, 0)) := by
  have hx : L[n - 2]? = some L[n - 2] := List.getElem?_eq_getElem (by omega)
  have e : L.getD (n - 2) (0, 0, 0) = L[n - 2] := by rw [List.getD_eq_getElem?_getD, hx]; rfl
  have := h _ _ hx
  rw [e]
  exact ⟨by omega, by omega, hx⟩

theorem vis_mem (L : List Nd) (least : Nat) (hL : Falls L) (h2 : 2 ≤ least) : ∀ k n acc m, n < L.length + 2 → m ∈ vis L least k n acc → m ∈ acc ∨ (m ≤ n ∧ least ≤ m) := by
  intro k
  induction k with
  | zero => intro n acc m _ hm; exact Or.inl hm
  | succ k ih =>
    intro n acc m hn hm
    unfold vis at hm
    split at hm
    · exact Or.inl hm
    · rename_i hl
      split at hm
      · exact Or.inl hm
      · have hF := hL.at (n := n) (by omega) hn
        rw [List.mem_append] at hm
        rcases hm with hm | hm
        · rcases ih _ _ m (by omega) hm with h | h
          · rcases ih _ _ m (by omega) h with h | h
            · exact Or.inl h
            · exact Or.inr ⟨by omega, h.2⟩
          · exact Or.inr ⟨by omega, h.2⟩
        · simp at hm
          subst hm
          exact Or.inr ⟨Nat.le_refl _, by omega⟩
theorem vis_nodup (L : List Nd) (least : Nat) (hL : Falls L) (h2 : 2 ≤ least) : ∀ k n acc, n < L.length + 2 → acc.Nodup → (vis L least k n acc).Nodup := by
  intro k
  induction k with
  | zero => intro n acc _ h; exact h
  | succ k ih =>
    intro n acc hn h
    unfold vis
    split
    · exact h
    · split
      · exact h
      · rename_i hl hm
        have hF := hL.at (n := n) (by omega) hn
        rw [List.nodup_append]
        refine ⟨ih _ _ (by omega) (ih _ _ (by omega) h), by simp, ?_⟩
        intro a ha b hb e
        simp at hb
        subst hb
        subst e
        rcases vis_mem L least hL h2 _ _ _ _ (by omega) ha with h | h
        · rcases vis_mem L least hL h2 _ _ _ _ (by omega) h with h | h
          · exact hm h
          · omega
        · omega
/-- The numbers that are there lie in the list. -/
theorem vis_lt (L : List Nd) (least : Nat) (hL : Falls L) (h2 : 2 ≤ least) (k n : Nat) (acc : List Nat) (hn : n < L.length + 2) (hacc : ∀ m ∈ acc, least ≤ m ∧ m < L.length + 2) : ∀ m ∈ vis L least k n acc, least ≤ m ∧ m < L.length + 2 := by
  intro m hm
  rcases vis_mem L least hL h2 k n acc m hn hm with h | h
  · exact hacc m h
  · exact ⟨h.2, by omega⟩

/-- A map whose keys are no negative numbers. -/
def Nats (f : Value → Option Int) : Prop := ∀ x : Int, (f (.int .i64 x)).isSome = true → 0 ≤ x
theorem Nats.put {f f' : Value → Option Int} (h : Nats f) {n : Nat} {c : Int} (hu : Upd f (i6 n) (some c) f') : Nats f' := by
  intro x hx
  by_cases e : (Value.int .i64 x) = i6 n
  · have : x = (n : Int) := by cases e; rfl
    omega
  · rw [hu.2 _ e] at hx; exact h x hx

/-- An order in memory. -/
structure OrdAt (w : World) (ob pb : Nat) (lv : Value) (L : List Nd) (least : Nat) (acc : List Nat) : Prop where
  cells : w.heap[ob]? = some (.cells #[lv, i6 least, .map (some pb)] 153 (0, 0))
  list : w.ownsRow 0 82 3 lv L.length (flat L)
  place : ∃ f, MapOf Try.prog 3 3 w pb acc.length f ∧ RefMap least acc f ∧ Nats f

theorem OrdAt.apart {w : World} {ob pb : Nat} {lv : Value} {L : List Nd} {least : Nat} {acc : List Nat} (h : OrdAt w ob pb lv L least acc) : pb ≠ ob ∧ lv.ownBlock ≠ some pb ∧ pb < w.heap.size ∧ ob < w.heap.size := by
  obtain ⟨f, hf, _⟩ := h.place
  obtain ⟨es, c, hm⟩ := map_block hf
  refine ⟨?_, ?_, hf.lt, block_lt h.cells⟩
  · intro e; rw [e, h.cells] at hm; cases hm
  · intro e; obtain ⟨cur, hc⟩ := owned_cells h.list e; rw [hm] at hc; cases hc
/-- What a call may do to an order: its map, and new blocks. -/
structure Only (pb : Nat) (w w' : World) : Prop where
  os : w'.os = w.os
  tape : w'.tape = w.tape
  output : w'.output = w.output
  size : w.heap.size ≤ w'.heap.size
  block : ∀ k, k < w.heap.size → k ≠ pb → w'.heap[k]? = w.heap[k]?
theorem Only.refl (pb : Nat) (w : World) : Only pb w w := ⟨rfl, rfl, rfl, Nat.le_refl _, fun _ _ _ => rfl⟩
theorem Only.trans {pb : Nat} {w w1 w2 : World} (h : Only pb w w1) (h' : Only pb w1 w2) : Only pb w w2 :=
  ⟨h'.os.trans h.os, h'.tape.trans h.tape, h'.output.trans h.output, Nat.le_trans h.size h'.size, fun k hk hn => (h'.block k (Nat.lt_of_lt_of_le hk h.size) hn).trans (h.block k hk hn)⟩
theorem Only.of_below {pb : Nat} {w w' : World} (h : Below w.heap.size w w') : Only pb w w' := ⟨h.os, h.tape, h.output, h.size, fun k hk _ => h.block k hk⟩
theorem OrdAt.only {w w' : World} {ob pb : Nat} {lv : Value} {L : List Nd} {least : Nat} {acc acc' : List Nat} (h : OrdAt w ob pb lv L least acc) (hm : Only pb w w') (hp : ∃ f, MapOf Try.prog 3 3 w' pb acc'.length f ∧ RefMap least acc' f ∧ Nats f) : OrdAt w' ob pb lv L least acc' := by
  obtain ⟨a1, a2, a3, a4⟩ := h.apart
  exact ⟨(hm.block ob a4 (fun e => a1 e.symm)).trans h.cells, row_same h.list fun g hg => hm.block g (h.list.lt g hg).2 (fun e => a2 (by rw [← e]; exact hg)), hp⟩
theorem OrdAt.below {w w' : World} {ob pb : Nat} {lv : Value} {L : List Nd} {least : Nat} {acc : List Nat} (h : OrdAt w ob pb lv L least acc) (hb : Below w.heap.size w w') : OrdAt w' ob pb lv L least acc := by
  obtain ⟨f, hf, hr, hz⟩ := h.place
  exact h.only (Only.of_below hb) ⟨f, hf.same (hb.block _ hf.lt), hr, hz⟩

theorem MapOf.block {P : Program} {k e : TypeId} {w : World} {b sz : Nat} {f : Value → Option Int} (h : MapOf P k e w b sz f) : ∃ es c, w.heap[b]? = some (.map es c) ∧ es.size = sz := by
  obtain ⟨D, ⟨es, clock, hb, F, hs, hD⟩, h2, h3⟩ := h
  exact ⟨es, clock, hb, by rw [← h2, hD]; simp [Maps.size, length_sorted]⟩

set_option maxHeartbeats 4000000 in
theorem visit_any (ob pb : Nat) (lv : Value) (L : List Nd) (least : Nat) (hL : Falls L) (hlen : L.length ≤ 1073741824) (h2 : 2 ≤ least) (hle : least ≤ 1073741824) : ∀ (k n : Nat) (acc : List Nat) (w : World), n < k → n < L.length + 2 → OrdAt w ob pb lv L least acc → acc.Nodup → (∀ m ∈ acc, least ≤ m ∧ m < L.length + 2) →
    Calls Try.prog 89 #[.pointer (some ⟨ob, 0, none⟩), i6 n] w fun e w' => e = .returned (.tuple #[]) ∧ OrdAt w' ob pb lv L least (vis L least k n acc) ∧ Only pb w w' := by
  intro k
  induction k with
  | zero => intro n acc w h; omega
  | succ k ih =>
    intro n acc w hnk hn hO hnd hacc
    have c0 : w.cell? ⟨ob, 0, none⟩ = some lv := by rw [cell_at hO.cells]; rfl
    have c1 : w.cell? ⟨ob, 1, none⟩ = some (.int .i64 least) := by rw [cell_at hO.cells]; rfl
    have c2 : w.cell? ⟨ob, 2, none⟩ = some (.map (some pb)) := by rw [cell_at hO.cells]; rfl
    by_cases hl : n < least
    · have HR : Hid (OrdAt w ob pb lv L least (vis L least (k + 1) n acc)) := by
        have e : vis L least (k + 1) n acc = acc := by unfold vis; rw [if_pos hl]
        rw [e]; exact hO
      have hlI : (n : Int) < (least : Int) := by omega
      clear hO ih
      go_enter Try.func89, Try.ntmps89
      go_wp2_with fail
      exact bodyPost_ret (v := .tuple #[]) (by simp [results, Try.results89, go_sem]) rfl ⟨rfl, HR.out, Only.refl _ _⟩
    · have hlI : ¬ ((n : Int) < (least : Int)) := by omega
      obtain ⟨f, hf, hr, _⟩ := hO.place
      obtain ⟨kl, hkl⟩ := key_int (a := n) (by omega)
      have hlook := MapOf.look hf kInt Try.underlying151 Try.underlying3 (zero_int _) hkl
      by_cases hin : n ∈ acc
      · obtain ⟨j, hj, hx⟩ := List.getElem_of_mem hin
        have hx' : acc[j]? = some n := by rw [List.getElem?_eq_getElem hj, hx]
        have hfx : f (i6 n) = some ((least + j : Nat) : Int) := (hr n).1 j hx'
        rw [hfx] at hlook
        simp only [Option.getD_some, Option.isSome_some, i6] at hlook
        have HR : Hid (OrdAt w ob pb lv L least (vis L least (k + 1) n acc)) := by
          have e : vis L least (k + 1) n acc = acc := by unfold vis; rw [if_neg hl, if_pos hin]
          rw [e]; exact hO
        obtain ⟨q, hq⟩ : ∃ q, q = least + j := ⟨_, rfl⟩
        rw [← hq] at hlook
        clear hO ih hf hr hfx hx hx' hin hkl hj hq
        go_enter Try.func89, Try.ntmps89
        go_wp2_with fail
        exact bodyPost_ret (v := .tuple #[]) (by simp [results, Try.results89, go_sem]) rfl ⟨rfl, HR.out, Only.refl _ _⟩
      · have hfx : f (i6 n) = none := (hr n).2 hin
        rw [hfx] at hlook
        simp only [Option.getD_none, Option.isSome_none, i6] at hlook
        have hFall := hL.at (n := n) (by omega) hn
        have evis : vis L least (k + 1) n acc = vis L least k (L.getD (n - 2) (0, 0, 0)).2.2 (vis L least k (L.getD (n - 2) (0, 0, 0)).2.1 acc) ++ [n] := by
          conv => lhs; unfold vis
          rw [if_neg hl, if_neg hin]
        obtain ⟨x, hx⟩ : ∃ x, x = L.getD (n - 2) (0, 0, 0) := ⟨_, rfl⟩
        rw [← hx] at hFall evis
        obtain ⟨i, rfl⟩ : ∃ i, n = i + 2 := ⟨n - 2, by omega⟩
        have hxi : L[i]? = some x := by have := hFall.2.2; simpa using this
        obtain ⟨g, cap, hlv, _, hgl⟩ := hO.list.form (by omega)
        have hadd : ∀ j, (⟨g, 0, none⟩ : Addr).add j = ⟨g, j, none⟩ := by intro j; unfold Addr.add; split <;> simp_all
        obtain ⟨f0, f1, f2⟩ := flat_at hxi
        have hcl := hO.list.cells (g := g) (by rw [hlv]; rfl)
        have d0 := hcl _ _ f0
        have d1 := hcl _ _ f1
        have d2 := hcl _ _ f2
        rw [hadd] at d0 d1 d2
        rw [hlv] at c0
        have hap := hO.apart
        have hWb : Below w.heap.size w (w.alloc (.cells #[.int .i64 x.1, .int .i64 x.2.1, .int .i64 x.2.2] 82)) := (Below.refl _ _).alloc (Nat.le_refl _) _
        have hO1 := hO.below hWb
        have hbx := heap_alloc_new w (.cells #[.int .i64 x.1, .int .i64 x.2.1, .int .i64 x.2.2] 82)
        have HV : Hid (Calls Try.prog 89 #[.pointer (some ⟨ob, 0, none⟩), i6 x.2.1] (w.alloc (.cells #[.int .i64 x.1, .int .i64 x.2.1, .int .i64 x.2.2] 82)) fun e w1 => e = .returned (.tuple #[]) ∧ w1.cell? ⟨w.heap.size, 2, none⟩ = some (.int .i64 x.2.2) ∧
            Hid (Calls Try.prog 89 #[.pointer (some ⟨ob, 0, none⟩), i6 x.2.2] w1 fun e w2 => e = .returned (.tuple #[]) ∧ w2.cell? ⟨ob, 1, none⟩ = some (.int .i64 least) ∧ w2.cell? ⟨ob, 2, none⟩ = some (.map (some pb)) ∧ ∃ (q : Nat) (w4 : World), (Builtin.len_ #[151] 3 #[.map (some pb)]).run Try.prog w2.drew = .ok (.int .i64 q) w2.drew ∧ q ≤ 1073741826 ∧
              (Instr.mapUpdate 151 (.map (some pb)) (.int .i64 ((i : Int) + 2)) (.int .i64 ((least : Int) + (q : Int)))).run Try.prog w2.drew = .ok () w4 ∧ Hid (OrdAt w4 ob pb lv L least (vis L least (k + 1) (i + 2) acc) ∧ Only pb w w4))) := by
          refine (ih x.2.1 acc _ (by omega) (by omega) hO1 hnd hacc).mono ?_
          rintro e w1 ⟨rfl, o1, m1⟩
          have b1 := m1.block w.heap.size (by simp) (by omega)
          refine ⟨rfl, ?_, ?_⟩
          · have : w1.heap[w.heap.size]? = _ := b1.trans hbx
            rw [cell_at this]; rfl
          · refine (ih x.2.2 _ w1 (by omega) (by omega) o1 (vis_nodup L least hL h2 _ _ _ (by omega) hnd) (vis_lt L least hL h2 _ _ _ (by omega) hacc)).mono ?_
            rintro e w2 ⟨rfl, o2, m2⟩
            have hnd2 := vis_nodup L least hL h2 k x.2.2 _ (by omega) (vis_nodup L least hL h2 k x.2.1 acc (by omega) hnd)
            have hlt2 := vis_lt L least hL h2 k x.2.2 _ (by omega) (vis_lt L least hL h2 k x.2.1 acc (by omega) hacc)
            have hmem2 : i + 2 ∉ vis L least k x.2.2 (vis L least k x.2.1 acc) := by
              intro hm
              rcases vis_mem L least hL h2 _ _ _ _ (by omega) hm with h | h
              · rcases vis_mem L least hL h2 _ _ _ _ (by omega) h with h | h
                · exact hin h
                · omega
              · omega
            generalize vis L least k x.2.2 (vis L least k x.2.1 acc) = acc2 at *
            obtain ⟨fp, hfp, hrp, hzp⟩ := o2.place
            have hcount : acc2.length ≤ L.length + 2 := by
              refine Bd.pigeon (L.length + 2) acc2.length (fun j => acc2.getD j 0) ?_ ?_
              · intro j hj
                show acc2.getD j 0 < _
                rw [List.getD_eq_getElem?_getD, List.getElem?_eq_getElem hj]
                exact (hlt2 _ (List.getElem_mem hj)).2
              · intro p q hp hq hpq
                have hpq' : acc2.getD p 0 = acc2.getD q 0 := hpq
                rw [List.getD_eq_getElem?_getD, List.getElem?_eq_getElem hp, List.getD_eq_getElem?_getD, List.getElem?_eq_getElem hq] at hpq'
                exact (List.getElem_inj (h₀ := hp) (h₁ := hq) hnd2).1 hpq'
            obtain ⟨w4, hrun, hput, hg4⟩ := MapOf.put_run (w := w2.drew) (hfp.same rfl) kInt Try.underlying151 Try.underlying3 (by unfold maxLen; omega) hkl (c := ((least + acc2.length : Nat) : Int)) (wf64 (by omega))
            refine ⟨rfl, by rw [cell_at o2.cells]; rfl, by rw [cell_at o2.cells]; rfl, acc2.length, w4, (hfp.same (w' := w2.drew) rfl).len Try.underlying151 _, by omega, ?_, ?_⟩
            · have e1 : ((least + acc2.length : Nat) : Int) = (least : Int) + (acc2.length : Int) := by omega
              have e2 : ((i + 2 : Nat) : Int) = (i : Int) + 2 := by omega
              rw [← e1, ← e2]; exact hrun
            · have hm4 : Only pb w2 w4 := ⟨hg4.os, hg4.tape, hg4.output, hg4.size, fun j hj hne => hg4.block j hj (fun e => hne (by cases e; rfl))⟩
              rw [evis]
              obtain ⟨fn, hfn⟩ := upd_exists fp (i6 (i + 2)) (some ((least + acc2.length : Nat) : Int))
              have hfnone : fp (i6 (i + 2)) = none := (hrp _).2 hmem2
              have hm := hput fn hfn
              rw [hfnone] at hm
              refine ⟨o2.only hm4 ⟨fn, ?_, hrp.snoc hmem2 hfn, hzp.put hfn⟩, ((Only.of_below hWb).trans m1).trans (m2.trans hm4)⟩
              have e : (acc2 ++ [i + 2]).length = acc2.length + 1 := by simp
              rw [e]
              simpa using hm
        have e1 : ((i + 2 : Nat) : Int) = (i : Int) + 2 := by omega
        have hiI : (i : Int) < (L.length : Int) := by omega
        have hlenI : (L.length : Int) ≤ 1073741824 := by omega
        have hleI : (least : Int) ≤ 1073741824 := by omega
        simp only [i6, e1] at hlI hlook d0 d1 d2 ⊢
        obtain ⟨len, hlen0⟩ : ∃ len, len = L.length := ⟨_, rfl⟩
        rw [← hlen0] at c0 hiI hlenI
        clear hO ih hf hr hfx hin hkl hFall hx hxi hcl f0 f1 f2 hadd hO1 hWb hbx evis hlen0 hnd hacc hlv hnk hn
        go_enter Try.func89, Try.ntmps89
        go_wp2_with fail
        refine HV.out.mono ?_
        rintro e w1 ⟨rfl, q2, HV2⟩
        go_wp2_with fail
        refine HV2.out.mono ?_
        rintro e w2 ⟨rfl, p1, p2, q, w4, hln, hqz, hrun, HO⟩
        have hqI : (q : Int) ≤ 1073741826 := by omega
        go_wp2_with fail
        go_region
        go_end0
        exact ⟨rfl, HO.out⟩
end Go.Proofs.Ytffngpdngjfcfaa
namespace Go.Proofs.Ytffngpdngjfcfaa
open Go.RowKit Go.Maps
open Bd (Nd)

/-- A node's number in an order: its old one, if it is left out. -/
def nm (acc : List Nat) (least m : Nat) : Nat := if m ∈ acc then least + acc.idxOf m else m
theorem idx_at {acc : List Nat} {m : Nat} (h : m ∈ acc) : acc[acc.idxOf m]? = some m := by
  have hlt := List.idxOf_lt_length_of_mem h
  rw [List.getElem?_eq_getElem hlt, List.getElem_idxOf hlt]
theorem idx_of {acc : List Nat} (hnd : acc.Nodup) {j m : Nat} (h : acc[j]? = some m) : acc.idxOf m = j := by
  have hj := Bd.getElem?_lt h
  have hm : m ∈ acc := List.mem_of_getElem? h
  have h2 := idx_at hm
  have hlt := List.idxOf_lt_length_of_mem hm
  rw [List.getElem?_eq_getElem hlt] at h2
  rw [List.getElem?_eq_getElem hj] at h
  exact (List.getElem_inj (h₀ := hlt) (h₁ := hj) hnd).1 (by rw [Option.some.inj h2, Option.some.inj h])

def rn (L : List Nd) (acc : List Nat) (least n : Nat) : Nd := ((L.getD (n - 2) (0, 0, 0)).1, nm acc least (L.getD (n - 2) (0, 0, 0)).2.1, nm acc least (L.getD (n - 2) (0, 0, 0)).2.2)

set_option maxHeartbeats 1000000 in
theorem name_any {w : World} {ob pb : Nat} {lv : Value} {L : List Nd} {least : Nat} {acc : List Nat} (hO : OrdAt w ob pb lv L least acc) (m : Nat) (hm : m < 9223372036854775808) :
    Calls Try.prog 90 #[.pointer (some ⟨ob, 0, none⟩), i6 m] w fun e w' => e = .returned (i6 (nm acc least m)) ∧ w' = w := by
  have c2 : w.cell? ⟨ob, 2, none⟩ = some (.map (some pb)) := by rw [cell_at hO.cells]; rfl
  obtain ⟨f, hf, hr, _⟩ := hO.place
  obtain ⟨kl, hkl⟩ := key_int (a := m) hm
  have hlook := MapOf.look hf kInt Try.underlying151 Try.underlying3 (zero_int _) hkl
  by_cases hin : m ∈ acc
  · have hfx : f (i6 m) = some ((least + acc.idxOf m : Nat) : Int) := (hr m).1 _ (idx_at hin)
    rw [hfx] at hlook
    simp only [Option.getD_some, Option.isSome_some, i6] at hlook
    have e : nm acc least m = least + acc.idxOf m := by unfold nm; rw [if_pos hin]
    rw [e]
    obtain ⟨q, hq⟩ : ∃ q, q = least + acc.idxOf m := ⟨_, rfl⟩
    rw [← hq] at hlook ⊢
    clear hO hf hr hfx hin hkl hq e
    go_enter Try.func90, Try.ntmps90
    go_wp2_with fail
    go_ret
    exact ⟨rfl, rfl⟩
  · have hfx : f (i6 m) = none := (hr m).2 hin
    rw [hfx] at hlook
    simp only [Option.getD_none, Option.isSome_none, i6] at hlook
    have e : nm acc least m = m := by unfold nm; rw [if_neg hin]
    rw [e]
    clear hO hf hr hfx hin hkl e
    go_enter Try.func90, Try.ntmps90
    go_wp2_with fail
    go_ret
    exact ⟨rfl, rfl⟩

def blanks (n : Nat) : Array Value := madeCells #[.int .i64 0, .int .i64 0, .int .i64 0] (n * 3)
theorem blanks_size (n : Nat) : (blanks n).size = n * 3 := size_madeCells _ _
theorem run_blanks (n : Nat) (hn : n ≤ 1073741826) (w : World) :
    (Instr.makeSlice 46 (.int .i64 (n : Int)) (.int .i64 (n : Int))).run Try.prog w = .ok (.slice (some ⟨w.heap.size, 0, none⟩) n n) (w.alloc (.cells (blanks n) 82)) := by
  obtain ⟨i, hi, hz0, hz1, hz2⟩ := info_parts Try.infoNode
  have := run_make (P := Try.prog) w 46 82 i (.agg #[i6 0, i6 0, i6 0]) Try.underlying46 hi hz0 .i64 .i64 n n (by omega) (by omega) (by rw [hz2]; omega) (by omega)
  rw [this, hz1]
  rfl

/-- Three cells stored one behind the other. -/
def set3 (cs : Array Value) (x : Nat) (a b c : Value) : Array Value := ((cs.setIfInBounds x a).setIfInBounds (x + 1) b).setIfInBounds (x + 2) c
theorem set3_size (cs : Array Value) (x : Nat) (a b c : Value) : (set3 cs x a b c).size = cs.size := by simp [set3]
theorem set3_get (cs : Array Value) (x : Nat) (a b c : Value) (hx : x + 2 < cs.size) (z : Nat) : (set3 cs x a b c)[z]? = if z = x then some a else if z = x + 1 then some b else if z = x + 2 then some c else cs[z]? := by
  simp only [set3, Array.getElem?_setIfInBounds, Array.size_setIfInBounds]
  by_cases h0 : z = x
  · subst h0
    rw [if_neg (by omega), if_neg (by omega), if_pos rfl, if_pos (by omega), if_pos rfl]
  · by_cases h1 : z = x + 1
    · subst h1
      rw [if_neg (by omega), if_pos rfl, if_pos (by omega), if_neg (by omega), if_pos rfl]
    · by_cases h2 : z = x + 2
      · subst h2
        rw [if_pos rfl, if_pos (by omega), if_neg (by omega), if_neg (by omega), if_pos rfl]
      · rw [if_neg (by omega), if_neg (by omega), if_neg (by omega), if_neg h0, if_neg h1, if_neg h2]

/-- The cells of the new list, as far as the numbers of which done is told. -/
def Laid (cs : Array Value) (L : List Nd) (acc : List Nat) (least : Nat) (left : Lit → Bool) : Prop :=
  cs.size = acc.length * 3 ∧ ∀ (j n : Nat), acc[j]? = some n → left (.int .i64 (n : Int)) = false → cs[j * 3]? = some (i6 (rn L acc least n).1) ∧ cs[j * 3 + 1]? = some (i6 (rn L acc least n).2.1) ∧ cs[j * 3 + 2]? = some (i6 (rn L acc least n).2.2)
theorem Laid.put {cs : Array Value} {L : List Nd} {acc : List Nat} {least : Nat} {left : Lit → Bool} (hnd : acc.Nodup) (h : Laid cs L acc least left) {j n : Nat} (hj : acc[j]? = some n) (left' : Lit → Bool) (hl : ∀ m : Nat, m ≠ n → left' (.int .i64 (m : Int)) = left (.int .i64 (m : Int))) :
    Laid (set3 cs (j * 3) (i6 (rn L acc least n).1) (i6 (rn L acc least n).2.1) (i6 (rn L acc least n).2.2)) L acc least left' := by
  have hjl := Bd.getElem?_lt hj
  refine ⟨by rw [set3_size]; exact h.1, ?_⟩
  intro i m hi hm
  have hil := Bd.getElem?_lt hi
  have hsz := h.1
  rw [set3_get _ _ _ _ _ (by omega), set3_get _ _ _ _ _ (by omega), set3_get _ _ _ _ _ (by omega)]
  by_cases e : i = j
  · subst e
    rw [hj] at hi
    cases hi
    rw [if_pos rfl, if_neg (by omega), if_pos rfl, if_neg (by omega), if_neg (by omega), if_pos rfl]
    exact ⟨rfl, rfl, rfl⟩
  · have hmn : m ≠ n := by
      intro e2
      subst e2
      rw [List.getElem?_eq_getElem hjl] at hj
      rw [List.getElem?_eq_getElem hil] at hi
      exact e ((List.getElem_inj (h₀ := hil) (h₁ := hjl) hnd).1 (by rw [Option.some.inj hi, Option.some.inj hj]))
    rw [hl m hmn] at hm
    have := h.2 i m hi hm
    rw [if_neg (by omega), if_neg (by omega), if_neg (by omega), if_neg (by omega), if_neg (by omega), if_neg (by omega), if_neg (by omega), if_neg (by omega), if_neg (by omega)]
    exact this
end Go.Proofs.Ytffngpdngjfcfaa
namespace Go.Proofs.Ytffngpdngjfcfaa
open Go.RowKit Go.Maps
open Bd (Nd)

theorem laid_row {w : World} {g : Nat} {cs : Array Value} {L : List Nd} {acc : List Nat} {least : Nat} (h : Laid cs L acc least (fun _ => false)) (hb : w.heap[g]? = some (.cells cs 82 (0, 0))) (hn : acc.length ≤ 1073741826) :
    w.ownsRow 0 82 3 (.slice (some ⟨g, 0, none⟩) acc.length acc.length) acc.length (flat (acc.map (rn L acc least))) := by
  have hlen : (flat (acc.map (rn L acc least))).length = acc.length * 3 := by rw [flat_length, List.length_map]
  refine ⟨hlen, Or.inr ⟨g, acc.length, cs, rfl, Nat.zero_le _, hb, Nat.le_refl _, by unfold maxLen; omega, h.1, ?_⟩⟩
  apply List.ext_getElem?
  intro z
  have hz : z = (z / 3) * 3 + z % 3 := by omega
  by_cases hlt : z < acc.length * 3
  · rw [List.getElem?_take, if_pos hlt]
    have hj : z / 3 < acc.length := by omega
    have hacc : acc[z / 3]? = some acc[z / 3] := List.getElem?_eq_getElem hj
    have hm : (acc.map (rn L acc least))[z / 3]? = some (rn L acc least acc[z / 3]) := by rw [List.getElem?_map, hacc]; rfl
    obtain ⟨f0, f1, f2⟩ := flat_at hm
    obtain ⟨c0, c1, c2⟩ := h.2 _ _ hacc rfl
    have h3 : z % 3 = 0 ∨ z % 3 = 1 ∨ z % 3 = 2 := by omega
    rcases h3 with h3 | h3 | h3
    · have e : z = (z / 3) * 3 := by omega
      rw [e, f0]; simpa using c0
    · have e : z = (z / 3) * 3 + 1 := by omega
      rw [e]
      have e2 : ((z / 3 * 3 + 1) / 3) = z / 3 := by omega
      rw [f1]; simpa using c1
    · have e : z = (z / 3) * 3 + 2 := by omega
      rw [e, f2]; simpa using c2
  · rw [List.getElem?_eq_none (by rw [List.length_take]; omega), List.getElem?_eq_none (by rw [hlen]; omega)]

set_option maxRecDepth 4000 in
set_option maxHeartbeats 4000000 in
theorem nodes_any {w : World} {ob pb : Nat} {lv : Value} {L : List Nd} {least : Nat} {acc : List Nat} (hO : OrdAt w ob pb lv L least acc) (hnd : acc.Nodup) (hacc : ∀ m ∈ acc, least ≤ m ∧ m < L.length + 2) (h2 : 2 ≤ least) (hL : Falls L) (hlen : L.length ≤ 1073741824) (hle : least ≤ 1073741824) (hn : acc.length ≤ 1073741826) :
    Calls Try.prog 63 #[.pointer (some ⟨ob, 0, none⟩)] w fun e w' => e = .returned (.slice (some ⟨w.heap.size, 0, none⟩) acc.length acc.length) ∧ w'.ownsRow 0 82 3 (.slice (some ⟨w.heap.size, 0, none⟩) acc.length acc.length) acc.length (flat (acc.map (rn L acc least))) ∧ Below w.heap.size w w' := by
  have c0 : w.cell? ⟨ob, 0, none⟩ = some lv := by rw [cell_at hO.cells]; rfl
  have c1 : w.cell? ⟨ob, 1, none⟩ = some (.int .i64 least) := by rw [cell_at hO.cells]; rfl
  have c2 : w.cell? ⟨ob, 2, none⟩ = some (.map (some pb)) := by rw [cell_at hO.cells]; rfl
  obtain ⟨f, hf, hr, hz⟩ := hO.place
  have hap := hO.apart
  have hln : (Builtin.len_ #[151] 3 #[.map (some pb)]).run Try.prog w = .ok (.int .i64 acc.length) w := hf.len Try.underlying151 _
  obtain ⟨D, hown, hsz, hview⟩ := hf
  have HO := keep hO
  have HR := keep hr
  have HZ := keep hz
  have HOWN := keep hown
  have HV := keep hview
  have HND := keep hnd
  have HACC := keep hacc
  have HL := keep hL
  obtain ⟨n, hnn⟩ : ∃ n, n = acc.length := ⟨_, rfl⟩
  have HN := keep hnn
  have hmk := run_blanks n (by omega)
  rw [← hnn] at hln HOWN hn ⊢
  clear hO hr hz hown hview hnd hacc hL hnn hsz
  have c2a : ∀ o, (w.alloc o).cell? ⟨ob, 2, none⟩ = some (.map (some pb)) := fun o => by rw [World.cell?_of_block (heap_alloc_old w o hap.2.2.2)]; exact c2
  go_enter Try.func63, Try.ntmps63
  go_wp2_with (first | (at_range; refine wpList_range_own _ rfl (.tmp 16) 151 rfl 3 3 kInt Try.underlying151 (plainElem Try.prog 3) pb n D rfl (HOWN.out.alloc _) ?_; intro w0 hrg0 hg0 hs0) | go_in)
  have e1 : (w.alloc (.cells (blanks n) 82)).heap.size = w.heap.size + 1 := by simp
  rw [e1] at hrg0 hs0 ⊢
  have HB0 : Hid (Below w.heap.size w w0) := by
    have h := (Below.refl w.heap.size w).alloc (Nat.le_refl _) (.cells (blanks n) 82)
    exact ⟨hg0.os.trans h.os, hg0.tape.trans h.tape, hg0.output.trans h.output, by omega, fun k hk => (hg0.block k (by rw [e1]; omega) (by simp)).trans (h.block k hk)⟩
  have HC0 : Hid (w0.heap[w.heap.size]? = some (.cells (blanks n) 82 (0, 0))) := (hg0.block _ (by rw [e1]; omega) (by simp)).trans (heap_alloc_new w _)
  have HS0 : Hid (Laid (blanks n) L acc least (Maps.has D)) := by
    refine ⟨by rw [blanks_size, HN.out], fun j m hj hm => ?_⟩
    obtain ⟨kl, hkl⟩ := key_int (a := m) (by have := HACC.out m (List.mem_of_getElem? hj); omega)
    have hkl2 : kl = .int .i64 (m : Int) := by have := keyOf_int_mk (P := Try.prog) Try.underlying3 (a := (m : Int)) (wf64 (by have := HACC.out m (List.mem_of_getElem? hj); omega)); rw [hkl] at this; exact Option.some.inj this
    subst hkl2
    have := (HV.out _ _ hkl).1
    rw [hm, (HR.out m).1 j hj] at this
    cases this
  have HRG := keep hrg0
  clear hrg0 hg0
  go_frame
  go_loopw [4] (fun _ wr => ∃ (left : Lit → Bool) (cnt : Nat) (cs : Array Value), wr.ranges Try.prog 3 (plainElem (H := Unit) Try.prog 3) pb (w.heap.size + 1) n D left cnt ∧ wr.heap[w.heap.size]? = some (.cells cs 82 (0, 0)) ∧ Laid cs L acc least left ∧ Below w.heap.size w wr) (fun _ wr => wr.rangeLeft pb (w.heap.size + 1))
  case atStart => exact ⟨_, _, _, HRG.out, HC0.out, HS0.out, HB0.out⟩
  case round =>
    obtain ⟨left, cnt, cs, hrg, hcs, hlaid, hB⟩ := hrel
    have HCS := keep hcs
    have HLD := keep hlaid
    have HB := keep hB
    clear hcs hlaid hB
    go_wp2_with (first | (at_next; refine wpList_next_ranges_ii _ rfl (.tmp 17) rfl 3 3 .i64 .i64 kInt Try.underlying3 Try.underlying3 pb (w.heap.size + 1) n D left cnt rfl hrg ?_ ?_) | go_in)
    · intro _ hl0
      have hend : left = fun _ => false := funext hl0
      have HD := HLD.out
      rw [hend] at HD
      have HROW := keep (laid_row HD HCS.out (by rw [← HN.out]; exact hn))
      clear HD hend hl0
      go_wp2
      go_ret
      refine ⟨rfl, ?_, HB.out⟩
      have := HROW.out
      rw [← HN.out] at this
      exact this
    · intro x c w1 cnt1 hwx hwc hlx hat hrg1 hlt hg1 hs1 hen
      have keyx : keyOf Try.prog 3 (.int .i64 x) = some (.int .i64 x) := keyOf_int_mk Try.underlying3 hwx
      obtain ⟨v1, v2⟩ := HV.out _ _ keyx
      rw [Maps.has_true_of_atKey hat] at v1
      obtain ⟨v, hfv⟩ := Option.isSome_iff_exists.1 v1.symm
      have hx0 := HZ.out x v1.symm
      obtain ⟨m, rfl⟩ : ∃ m : Nat, x = (m : Int) := ⟨x.toNat, by omega⟩
      have hmem : m ∈ acc := by
        rcases Classical.em (m ∈ acc) with h | h
        · exact h
        · have := (HR.out m).2 h
          have e : f (i6 m) = some v := hfv
          rw [e] at this
          cases this
      obtain ⟨j, hj⟩ : ∃ j, acc[j]? = some m := ⟨_, idx_at hmem⟩
      have hcj : c = ((least + j : Nat) : Int) := by
        have h1 := v2 _ ((HR.out m).1 j hj)
        rw [hat] at h1
        cases h1
        rfl
      have hma := HACC.out m hmem
      have hFall := HL.out.at (n := m) (by omega) hma.2
      have hjl := Bd.getElem?_lt hj
      have hjn : j < n := by rw [HN.out]; exact hjl
      obtain ⟨xn, hxn⟩ : ∃ xn, xn = L.getD (m - 2) (0, 0, 0) := ⟨_, rfl⟩
      rw [← hxn] at hFall
      obtain ⟨i, rfl⟩ : ∃ i, m = i + 2 := ⟨m - 2, by omega⟩
      have hxi : L[i]? = some xn := by have := hFall.2.2; simpa using this
      have hBw1 : Below w.heap.size w w1 := ⟨hg1.os.trans HB.out.os, hg1.tape.trans HB.out.tape, hg1.output.trans HB.out.output, by rw [hs1]; exact HB.out.size, fun k hk => (hg1.block k (by have := HB.out.size; omega) (by simp; omega)).trans (HB.out.block k hk)⟩
      have hO1 := HO.out.below hBw1
      have hcs1 : w1.heap[w.heap.size]? = some (.cells cs 82 (0, 0)) := (hg1.block _ (block_lt HCS.out) (by simp)).trans HCS.out
      obtain ⟨g, cap, hlv, _, hgl⟩ := HO.out.list.form (by omega)
      have hadd : ∀ j, (⟨g, 0, none⟩ : Addr).add j = ⟨g, j, none⟩ := by intro j; unfold Addr.add; split <;> simp_all
      obtain ⟨f0, f1, f2⟩ := flat_at hxi
      have hcl := hO1.list.cells (g := g) (by rw [hlv]; rfl)
      have d0 := hcl _ _ f0
      have d1 := hcl _ _ f1
      have d2 := hcl _ _ f2
      rw [hadd] at d0 d1 d2
      have k0 : w1.cell? ⟨ob, 0, none⟩ = some (.slice (some ⟨g, 0, none⟩) L.length cap) := by rw [hBw1.cell (by exact hap.2.2.2), ← hlv]; exact c0
      have k1 : w1.cell? ⟨ob, 1, none⟩ = some (.int .i64 least) := by rw [hBw1.cell (by exact hap.2.2.2)]; exact c1
      have l1 := block_lt hcs1
      have lob : ob < w1.heap.size := Nat.lt_of_lt_of_le hap.2.2.2 hBw1.size
      have oldA : ∀ o k, k < w1.heap.size → (w1.alloc o).heap[k]? = w1.heap[k]? := fun o k hk => heap_alloc_old w1 o hk
      have HNM : Hid (∀ q, q < 9223372036854775808 → Calls Try.prog 90 #[.pointer (some ⟨ob, 0, none⟩), .int .i64 (q : Nat)] (w1.alloc (.cells #[.int .i64 xn.1, .int .i64 xn.2.1, .int .i64 xn.2.2] 82)).drew fun e w' => e = .returned (.int .i64 (nm acc least q : Nat)) ∧ w' = (w1.alloc (.cells #[.int .i64 xn.1, .int .i64 xn.2.1, .int .i64 xn.2.2] 82)).drew) := by
        intro q hq
        exact name_any (hO1.below ((Below.refl _ _).alloc (Nat.le_refl _) _).drew) q hq
      have blo : xn.2.1 < 9223372036854775808 := by omega
      have bhi : xn.2.2 < 9223372036854775808 := by omega
      have k1a : ∀ o, (w1.alloc o).cell? ⟨ob, 1, none⟩ = some (.int .i64 least) := fun o => by rw [World.cell?_of_block (oldA o ob lob)]; exact k1
      have hcsz : cs.size = n * 3 := by rw [HN.out]; exact HLD.out.1
      have t0 : ∀ o, ∃ u, (w1.alloc o).cell? ⟨w.heap.size, j * 3, none⟩ = some u := fun o => ⟨cs[j * 3]'(by omega), by rw [World.cell?_of_block (oldA o _ l1), cell_at hcs1, Array.getElem?_eq_getElem]⟩
      have t1 : ∀ o, ∃ u, (w1.alloc o).cell? ⟨w.heap.size, j * 3 + 1, none⟩ = some u := fun o => ⟨cs[j * 3 + 1]'(by omega), by rw [World.cell?_of_block (oldA o _ l1), cell_at hcs1, Array.getElem?_eq_getElem]⟩
      have t2 : ∀ o, ∃ u, (w1.alloc o).cell? ⟨w.heap.size, j * 3 + 2, none⟩ = some u := fun o => ⟨cs[j * 3 + 2]'(by omega), by rw [World.cell?_of_block (oldA o _ l1), cell_at hcs1, Array.getElem?_eq_getElem]⟩
      obtain ⟨u0, z0⟩ := t0 (.cells #[.int .i64 xn.1, .int .i64 xn.2.1, .int .i64 xn.2.2] 82)
      obtain ⟨u1, z1⟩ := t1 (.cells #[.int .i64 xn.1, .int .i64 xn.2.1, .int .i64 xn.2.2] 82)
      obtain ⟨u2, z2⟩ := t2 (.cells #[.int .i64 xn.1, .int .i64 xn.2.1, .int .i64 xn.2.2] 82)
      have zf : ∀ q, (w1.alloc (.cells #[.int .i64 xn.1, .int .i64 xn.2.1, .int .i64 xn.2.2] 82)).frozen? ⟨w.heap.size, q, none⟩ = false := fun q => by rw [World.frozen?_of_block (oldA _ _ l1)]; exact not_frozen hcs1
      have ei : ((i + 2 : Nat) : Int) = (i : Int) + 2 := by omega
      have ec : ((least + j : Nat) : Int) = (least : Int) + (j : Int) := by omega
      have hw1 : IntKind.i64.wrap ((least : Int) + (j : Int) - (least : Int)) = (least : Int) + (j : Int) - (least : Int) := by
        rw [IntKind.wrap_i64]
        omega
      have hw2 : wrap64 ((least : Int) + (j : Int) - (least : Int)) = (least : Int) + (j : Int) - (least : Int) := by unfold wrap64; omega
      have hjI : (j : Int) < (n : Int) := by omega
      have hj0 : (0 : Int) ≤ (j : Int) := by omega
      have hb1 : (0 : Int) ≤ (least : Int) + (j : Int) - (least : Int) := by omega
      have hb2 : (least : Int) + (j : Int) - (least : Int) < (n : Int) := by omega
      have hb3 : ((least : Int) + (j : Int) - (least : Int)).toNat = j := by omega
      have hb4 : (least : Int) ≤ (least : Int) + (j : Int) := by omega
      have hb5 : (least : Int) + (j : Int) < (n : Int) + (least : Int) := by omega
      have hb6 : least ≤ least + j := by omega
      have hb7 : least + j < n + least := by omega
      have hiI : (i : Int) < (L.length : Int) := by omega
      have hlI : (L.length : Int) ≤ 1073741824 := by omega
      have hleI : (least : Int) ≤ 1073741824 := by omega
      have hnI : (n : Int) ≤ 1073741826 := by omega
      rw [ec] at hcj
      subst hcj
      rw [ei] at hen hrg1 ⊢
      have HFIN : Hid (∃ (left : Lit → Bool) (cnt : Nat) (cs : Array Value), World.ranges (World.setCell (World.setCell (World.setCell (w1.alloc (.cells #[.int .i64 xn.1, .int .i64 xn.2.1, .int .i64 xn.2.2] 82)).drew ⟨w.heap.size, j * 3, none⟩ (.int .i64 xn.1)) ⟨w.heap.size, j * 3 + 1, none⟩ (.int .i64 (nm acc least xn.2.1 : Nat))) ⟨w.heap.size, j * 3 + 2, none⟩ (.int .i64 (nm acc least xn.2.2 : Nat))) Try.prog 3 (plainElem (H := Unit) Try.prog 3) pb (w.heap.size + 1) n D left cnt ∧
          (World.setCell (World.setCell (World.setCell (w1.alloc (.cells #[.int .i64 xn.1, .int .i64 xn.2.1, .int .i64 xn.2.2] 82)).drew ⟨w.heap.size, j * 3, none⟩ (.int .i64 xn.1)) ⟨w.heap.size, j * 3 + 1, none⟩ (.int .i64 (nm acc least xn.2.1 : Nat))) ⟨w.heap.size, j * 3 + 2, none⟩ (.int .i64 (nm acc least xn.2.2 : Nat))).heap[w.heap.size]? = some (.cells cs 82 (0, 0)) ∧ Laid cs L acc least left ∧
          Below w.heap.size w (World.setCell (World.setCell (World.setCell (w1.alloc (.cells #[.int .i64 xn.1, .int .i64 xn.2.1, .int .i64 xn.2.2] 82)).drew ⟨w.heap.size, j * 3, none⟩ (.int .i64 xn.1)) ⟨w.heap.size, j * 3 + 1, none⟩ (.int .i64 (nm acc least xn.2.1 : Nat))) ⟨w.heap.size, j * 3 + 2, none⟩ (.int .i64 (nm acc least xn.2.2 : Nat))) ∧ cnt < cnt1 + 1) := by
        have hb0 : Below w.heap.size w (w1.alloc (.cells #[.int .i64 xn.1, .int .i64 xn.2.1, .int .i64 xn.2.2] 82)).drew := (hBw1.alloc hBw1.size _).drew
        have hbl : (w1.alloc (.cells #[.int .i64 xn.1, .int .i64 xn.2.1, .int .i64 xn.2.2] 82)).drew.heap[w.heap.size]? = _ := (oldA _ _ l1).trans hcs1
        have hrn : rn L acc least (i + 2) = (xn.1, nm acc least xn.2.1, nm acc least xn.2.2) := by unfold rn; rw [← hxn]
        have hsk : ∀ q : Nat, q ≠ i + 2 → (Lit.int .i64 (q : Int)).sameKey (.int .i64 ((i : Int) + 2)) = false := by
          intro q hq
          apply Maps.sameKey_ne
          intro e
          have e2 : (q : Int) = (i : Int) + 2 := by cases e; omega
          omega
        have hLP := HLD.out.put HND.out hj (fun z => left z && !z.sameKey (.int .i64 ((i : Int) + 2))) (fun q hq => by
          show (left (.int .i64 (q : Int)) && !(Lit.int .i64 (q : Int)).sameKey (.int .i64 ((i : Int) + 2))) = _
          rw [hsk q hq]
          simp)
        rw [hrn] at hLP
        refine ⟨_, cnt1, _, hrg1.kept (row := some w.heap.size) ⟨rfl, rfl, rfl, by simp, fun k hk hne => ?_⟩ ?_ ?_, set_block _ (set_block _ (set_block _ hbl)), hLP, ((hb0.setCell (Nat.le_refl _) _).setCell (Nat.le_refl _) _).setCell (Nat.le_refl _) _, by omega⟩
        · have hk' : k ≠ w.heap.size := fun e => hne (by rw [e])
          rw [set_other _ hk', set_other _ hk', set_other _ hk']
          exact oldA _ k hk
        · simp; have := hap.2.2.1; omega
        · simp
      have HNEST : Hid (Calls Try.prog 90 #[.pointer (some ⟨ob, 0, none⟩), .int .i64 (xn.2.1 : Nat)] (w1.alloc (.cells #[.int .i64 xn.1, .int .i64 xn.2.1, .int .i64 xn.2.2] 82)).drew fun e w2 => e = .returned (.int .i64 (nm acc least xn.2.1 : Nat)) ∧ (w2.cell? ⟨ob, 1, none⟩ = some (.int .i64 least) ∧ w2.cell? ⟨w1.heap.size, 0, none⟩ = some (.int .i64 xn.1) ∧ w2.cell? ⟨w1.heap.size, 1, none⟩ = some (.int .i64 xn.2.1) ∧ w2.cell? ⟨w1.heap.size, 2, none⟩ = some (.int .i64 xn.2.2)) ∧
          Hid (Calls Try.prog 90 #[.pointer (some ⟨ob, 0, none⟩), .int .i64 (xn.2.2 : Nat)] w2 fun e w3 => e = .returned (.int .i64 (nm acc least xn.2.2 : Nat)) ∧ (w3.cell? ⟨ob, 1, none⟩ = some (.int .i64 least) ∧ w3.cell? ⟨w1.heap.size, 0, none⟩ = some (.int .i64 xn.1) ∧ w3.cell? ⟨w1.heap.size, 1, none⟩ = some (.int .i64 xn.2.1) ∧ w3.cell? ⟨w1.heap.size, 2, none⟩ = some (.int .i64 xn.2.2)) ∧
            w3.cell? ⟨w.heap.size, j * 3, none⟩ = some u0 ∧ w3.cell? ⟨w.heap.size, j * 3 + 1, none⟩ = some u1 ∧ w3.cell? ⟨w.heap.size, j * 3 + 2, none⟩ = some u2 ∧ w3.frozen? ⟨w.heap.size, j * 3, none⟩ = false ∧ w3.frozen? ⟨w.heap.size, j * 3 + 1, none⟩ = false ∧ w3.frozen? ⟨w.heap.size, j * 3 + 2, none⟩ = false ∧ (∀ p q r, (((w3.setCell ⟨w.heap.size, j * 3, none⟩ p).setCell ⟨w.heap.size, j * 3 + 1, none⟩ q).setCell ⟨w.heap.size, j * 3 + 2, none⟩ r).cell? ⟨ob, 1, none⟩ = some (.int .i64 least) ∧ (((w3.setCell ⟨w.heap.size, j * 3, none⟩ p).setCell ⟨w.heap.size, j * 3 + 1, none⟩ q).setCell ⟨w.heap.size, j * 3 + 2, none⟩ r).cell? ⟨w1.heap.size, 0, none⟩ = some (.int .i64 xn.1) ∧ (((w3.setCell ⟨w.heap.size, j * 3, none⟩ p).setCell ⟨w.heap.size, j * 3 + 1, none⟩ q).setCell ⟨w.heap.size, j * 3 + 2, none⟩ r).cell? ⟨w1.heap.size, 1, none⟩ = some (.int .i64 xn.2.1) ∧ (((w3.setCell ⟨w.heap.size, j * 3, none⟩ p).setCell ⟨w.heap.size, j * 3 + 1, none⟩ q).setCell ⟨w.heap.size, j * 3 + 2, none⟩ r).cell? ⟨w1.heap.size, 2, none⟩ = some (.int .i64 xn.2.2)) ∧ Hid (w3 = (w1.alloc (.cells #[.int .i64 xn.1, .int .i64 xn.2.1, .int .i64 xn.2.2] 82)).drew))) := by
        have nb := heap_alloc_new w1 (.cells #[.int .i64 xn.1, .int .i64 xn.2.1, .int .i64 xn.2.2] 82)
        have four : (w1.alloc (.cells #[.int .i64 xn.1, .int .i64 xn.2.1, .int .i64 xn.2.2] 82)).drew.cell? ⟨ob, 1, none⟩ = some (.int .i64 least) ∧ (w1.alloc (.cells #[.int .i64 xn.1, .int .i64 xn.2.1, .int .i64 xn.2.2] 82)).drew.cell? ⟨w1.heap.size, 0, none⟩ = some (.int .i64 xn.1) ∧ (w1.alloc (.cells #[.int .i64 xn.1, .int .i64 xn.2.1, .int .i64 xn.2.2] 82)).drew.cell? ⟨w1.heap.size, 1, none⟩ = some (.int .i64 xn.2.1) ∧ (w1.alloc (.cells #[.int .i64 xn.1, .int .i64 xn.2.1, .int .i64 xn.2.2] 82)).drew.cell? ⟨w1.heap.size, 2, none⟩ = some (.int .i64 xn.2.2) := by
          have nb' : (w1.alloc (.cells #[.int .i64 xn.1, .int .i64 xn.2.1, .int .i64 xn.2.2] 82)).drew.heap[w1.heap.size]? = some (.cells #[.int .i64 xn.1, .int .i64 xn.2.1, .int .i64 xn.2.2] 82 (0, 0)) := nb
          exact ⟨k1a _, by rw [cell_at nb']; rfl, by rw [cell_at nb']; rfl, by rw [cell_at nb']; rfl⟩
        refine (HNM.out _ blo).mono ?_
        rintro e w2 ⟨rfl, rfl⟩
        refine ⟨rfl, four, ?_⟩
        refine (HNM.out _ bhi).mono ?_
        rintro e w3 ⟨rfl, rfl⟩
        refine ⟨rfl, four, z0, z1, z2, zf _, zf _, zf _, fun p q r => ?_, rfl⟩
        have far : ∀ (b o : Nat), b ≠ w.heap.size → ((((w1.alloc (.cells #[.int .i64 xn.1, .int .i64 xn.2.1, .int .i64 xn.2.2] 82)).drew.setCell ⟨w.heap.size, j * 3, none⟩ p).setCell ⟨w.heap.size, j * 3 + 1, none⟩ q).setCell ⟨w.heap.size, j * 3 + 2, none⟩ r).cell? ⟨b, o, none⟩ = (w1.alloc (.cells #[.int .i64 xn.1, .int .i64 xn.2.1, .int .i64 xn.2.2] 82)).drew.cell? ⟨b, o, none⟩ := by
          intro b o hb
          refine World.cell?_of_block ?_
          rw [set_other _ hb, set_other _ hb, set_other _ hb]
        rw [far _ _ (by have := hap.2.2.2; omega), far _ _ (by omega), far _ _ (by omega), far _ _ (by omega)]
        exact four
      simp only [i6] at d0 d1 d2
      obtain ⟨len, hlen0⟩ : ∃ len, len = L.length := ⟨_, rfl⟩
      rw [← hlen0] at k0 hiI hlI
      have KA := keep k1a
      clear HV HR HZ HOWN hat hlx v1 v2 hfv keyx hFall hxi hcl f0 f1 f2 hadd hO1 oldA t0 t1 t2 hcs1 hcsz hma hmem hj hjl hlen0 hwx hwc hBw1 hlv hxn ei ec hrg1 hg1 hs1 hx0
      go_wp2_with fail
      clear HNM z0 z1 z2 zf k1a
      go_region_held3 (fun w' => w'.cell? ⟨ob, 1, none⟩ = some (.int .i64 least) ∧ w'.cell? ⟨w1.heap.size, 0, none⟩ = some (.int .i64 xn.1) ∧ w'.cell? ⟨w1.heap.size, 1, none⟩ = some (.int .i64 xn.2.1) ∧ w'.cell? ⟨w1.heap.size, 2, none⟩ = some (.int .i64 xn.2.2)) (first | (go_keep; done) | exact S4 _ _ _ | exact S3 | exact S2) (first | (go_at_call 90; refine HN2.out.mono ?_; rintro e w3 ⟨rfl, S3, z0, z1, z2, zf0, zf1, zf2, S4, HEQ⟩) | (go_at_call 90; refine HNEST.out.mono ?_; rintro e w2 ⟨rfl, S2, HN2⟩))
      go_wp2_with fail
      go_roundw
      case rel =>
        have e := HEQ.out
        subst e
        obtain ⟨left', cnt', cs', r1, r2, r3, r4, _⟩ := HFIN.out
        exact ⟨left', cnt', cs', r1, r2, r3, r4⟩
      case measure =>
        have e := HEQ.out
        subst e
        obtain ⟨left', cnt', cs', r1, r2, r3, r4, r5⟩ := HFIN.out
        rw [r1.left_eq, hrg.left_eq]
        omega
end Go.Proofs.Ytffngpdngjfcfaa
namespace Go.Proofs.Ytffngpdngjfcfaa
open Go.RowKit Go.Maps
open Bd (Nd)

theorem make_order (w : World) : (Instr.makeMap 151 none).run Try.prog w = .ok (.map (some w.heap.size)) (w.alloc (.map #[] 0)) := by kernel_rfl

theorem ord_new {w : World} {lv : Value} {L : List Nd} {least : Nat} (hlist : w.ownsRow 0 82 3 lv L.length (flat L)) :
    OrdAt ((w.alloc (.map #[] 0)).alloc (.cells #[lv, i6 least, .map (some w.heap.size)] 153)) (w.heap.size + 1) w.heap.size lv L least [] := by
  have e1 : (w.alloc (.map #[] 0)).heap.size = w.heap.size + 1 := by simp
  refine ⟨?_, (hlist.alloc _).alloc _, fun _ => none, ?_, fun n => ⟨fun i h => by simp at h, fun _ => rfl⟩, fun x h => by simp at h⟩
  · have := heap_alloc_new (w.alloc (.map #[] 0)) (.cells #[lv, i6 least, .map (some w.heap.size)] 153)
    rw [e1] at this
    exact this
  · exact (MapOf.new Try.prog 3 3 w).same (heap_alloc_old _ _ (by omega))

set_option maxRecDepth 4000 in
set_option maxHeartbeats 1000000 in
theorem orderOf_one {w : World} {lv : Value} {L : List Nd} (hlist : w.ownsRow 0 82 3 lv L.length (flat L)) (hL : Falls L) (hlen : L.length ≤ 1073741824) (n gv cap : Nat) (hn : n < L.length + 2) (hg : gv < w.heap.size) (hc : w.cell? ⟨gv, 0, none⟩ = some (i6 n)) :
    Calls Try.prog 62 #[lv, .int .i64 2, .slice (some ⟨gv, 0, none⟩) 1 cap] w fun e w' => ∃ ob pb, e = .returned (.pointer (some ⟨ob, 0, none⟩)) ∧ OrdAt w' ob pb lv L 2 (vis L 2 (n + 1) n []) ∧ Below w.heap.size w w' := by
  have HO := keep (ord_new (least := 2) hlist)
  have hmk := make_order
  have c1 : ((w.alloc (.map #[] 0)).alloc (.cells #[lv, .int .i64 2, .map (some w.heap.size)] 153)).cell? ⟨gv, 0, none⟩ = some (i6 n) := by
    rw [World.cell?_of_block (heap_alloc_old _ _ (by simp; omega)), World.cell?_of_block (heap_alloc_old _ _ hg)]; exact hc
  obtain ⟨ao, cp, rfl⟩ : ∃ ao cp, lv = .slice ao L.length cp := by
    rcases hlist.2 with ⟨h1, h2⟩ | ⟨g, cp, cur, h1, _⟩
    · exact ⟨none, 0, by rw [h1, h2]⟩
    · exact ⟨_, _, h1⟩
  have HL := keep hL
  clear hlist hL
  go_enter Try.func62, Try.ntmps62
  go_wp2
  refine wp_loop_rounds 2 ?_
  rw [rounds_succ]
  go_wp2_with (go_at_call 89; refine (visit_any (w.heap.size + 1) w.heap.size _ L 2 HL.out hlen (by omega) (by omega) (n + 1) n [] _ (by omega) hn HO.out (by simp) (by simp)).mono ?_; rintro e w1 ⟨rfl, hO1, hon⟩; have HO1 := keep hO1; have HON := keep hon; clear hO1 hon)
  rw [rounds_succ]
  go_wp2
  go_ret
  refine ⟨_, _, rfl, HO1.out, ?_⟩
  have b0 : Below w.heap.size w ((w.alloc (.map #[] 0)).alloc (.cells #[.slice ao L.length cp, .int .i64 2, .map (some w.heap.size)] 153)) := ((Below.refl _ _).alloc (Nat.le_refl _) _).alloc (by simp) _
  have h := HON.out
  exact ⟨h.os.trans b0.os, h.tape.trans b0.tape, h.output.trans b0.output, Nat.le_trans b0.size h.size, fun k hk => (h.block k (Nat.lt_of_lt_of_le hk b0.size) (by omega)).trans (b0.block k hk)⟩
end Go.Proofs.Ytffngpdngjfcfaa
namespace Go.Proofs.Ytffngpdngjfcfaa
open Go.RowKit Go.Maps
open Bd (Nd)

theorem refs_one (w : World) (r : Nat) : RefsAt (w.alloc (.cells #[i6 r] 25)) (.slice (some ⟨w.heap.size, 0, none⟩) 1 1) [r] := by
  refine ⟨_, 1, rfl, fun i q hi => ?_⟩
  have : i = 0 := by have := Bd.getElem?_lt hi; simp at this; exact this
  subst this
  simp at hi
  subst hi
  exact ⟨w.heap.size, 0, rfl, by simp, by rw [cell_at (heap_alloc_new w _)]; rfl⟩

set_option maxHeartbeats 1000000 in
theorem root_ok {w : World} {y : Lay} {s : St} (hT : Tab w y s) (h2 : 2 ≤ s.first) (r n : Nat) (hn : s.node? r = some n) :
    Calls Try.prog 41 #[.pointer (some ⟨y.tb, 0, none⟩), i6 r] w fun e w' => e = .returned (.tuple #[i6 n, .int .i64 0]) ∧ Below w.heap.size w w' := by
  have HT := keep hT
  have q1 := made_ok hT
  have q2 := find_ok (hT.below ((Below.refl _ _).alloc (Nat.le_refl _) (.cells #[i6 r] 25))) h2 _ [r] [n] (refs_one w r) (by simp) ⟨rfl, fun i q hi => by
    have : i = 0 := by have := Bd.getElem?_lt hi; simp at this; exact this
    subst this
    simp at hi
    subst hi
    exact ⟨n, rfl, hn⟩⟩
  clear hT hn
  go_enter Try.func41, Try.ntmps41
  go_wp2_with (go_at_call 57; refine q1.mono ?_; rintro e w' ⟨rfl, rfl⟩)
  refine q2.mono ?_
  clear q2
  rintro e w1 ⟨rfl, ⟨cs, hcs, hsz, hc⟩, hb⟩
  have c0 : w1.cell? ⟨w'.heap.size + 1, 0, none⟩ = some (i6 n) := by
    have := hc 0 n rfl
    have e1 : (w'.alloc (.cells #[i6 r] 25)).heap.size = w'.heap.size + 1 := by simp
    rw [e1] at hcs
    rw [cell_at hcs]; exact this
  have HB := keep (((Below.refl _ _).alloc (Nat.le_refl _) _).trans (hb.mono (by simp)) : Below w'.heap.size w' w1)
  clear hc hcs hsz hb q1
  go_wp2
  go_ret2
  exact ⟨rfl, HB.out⟩

/-- The list of a node. -/
def listOf (L : List Nd) (n : Nat) : List Nd := (vis L 2 (n + 1) n []).map (rn L (vis L 2 (n + 1) n []) 2)

set_option maxRecDepth 4000 in
set_option maxHeartbeats 1000000 in
theorem List_ok {w : World} {y : Lay} {s : St} (hT : Tab w y s) (h2 : 2 ≤ s.first) (r n : Nat) (hn : s.node? r = some n) (hnl : n < s.L.length + 2) :
    Calls Try.prog 27 #[.pointer (some ⟨y.tb, 0, none⟩), i6 r] w fun e w' => ∃ v, e = .returned (.tuple #[v, .int .i64 0]) ∧ w'.ownsRow 0 82 3 v (listOf s.L n).length (flat (listOf s.L n)) ∧ Below w.heap.size w w' := by
  have HT := keep hT
  have q1 := root_ok hT h2 r n hn
  clear hT hn
  go_enter Try.func27, Try.ntmps27
  go_wp2_with fail
  refine q1.mono ?_
  clear q1
  rintro e w1 ⟨rfl, hb1⟩
  have HB1 := keep hb1
  have HT1 := keep (HT.out.below hb1)
  have c3 : w1.cell? ⟨y.tb, 3, none⟩ = some y.ls := by rw [cell_at HT1.out.cells]; rfl
  obtain ⟨ao, cap, hls⟩ := HT1.out.list_slice
  rw [hls] at c3
  clear hb1
  go_wp2_with fail
  refine (orderOf_one (lv := .slice ao s.L.length cap) (L := s.L) (by rw [← hls]; exact HT1.out.list.alloc _) HT.out.okay.falls HT.out.small.1 n w1.heap.size 1 hnl (by simp) (by rw [cell_at (heap_alloc_new w1 _)]; rfl)).mono ?_
  rintro e w2 ⟨ob, pb, rfl, hO, hb2⟩
  have HB2 := keep (((Below.refl _ _).alloc (Nat.le_refl _) _).trans (hb2.mono (by simp)) : Below w1.heap.size w1 w2)
  have HO := keep hO
  clear hb2 hO
  have hnd := vis_nodup s.L 2 HT.out.okay.falls (by omega) (n + 1) n [] hnl (by simp)
  have hvl := vis_lt s.L 2 HT.out.okay.falls (by omega) (n + 1) n [] hnl (by simp)
  have hlen : (vis s.L 2 (n + 1) n []).length ≤ 1073741826 := by
    have h1 : (vis s.L 2 (n + 1) n []).length ≤ s.L.length + 2 := by
      have := List.Nodup.length_le_of_subset (l₂ := List.range (s.L.length + 2)) hnd (fun m hm => List.mem_range.2 (hvl m hm).2)
      simpa using this
    have := HT.out.small.1
    omega
  go_wp2_with fail
  refine (nodes_any HO.out hnd hvl (by omega) HT.out.okay.falls HT.out.small.1 (by omega) hlen).mono ?_
  rintro e w3 ⟨rfl, hown, hb3⟩
  have HOWN := keep hown
  clear hown hnd hvl
  go_wp2
  go_ret2
  refine ⟨.slice (some ⟨w2.heap.size, 0, none⟩) (vis s.L 2 (n + 1) n []).length (vis s.L 2 (n + 1) n []).length, rfl, ?_, HB1.out.trans ((HB2.out.trans (hb3.mono HB2.out.size)).mono HB1.out.size)⟩
  rw [show (listOf s.L n).length = (vis s.L 2 (n + 1) n []).length by unfold listOf; rw [List.length_map]]
  exact HOWN.out

set_option maxHeartbeats 400000 in
theorem Size_ok {w : World} {y : Lay} {s : St} (hT : Tab w y s) : Calls Try.prog 30 #[.pointer (some ⟨y.tb, 0, none⟩)] w fun e w' => e = .returned (.int .i64 s.L.length) ∧ w' = w := by
  have c3 : w.cell? ⟨y.tb, 3, none⟩ = some y.ls := by rw [cell_at hT.cells]; rfl
  obtain ⟨ao, cap, hls⟩ := hT.list_slice
  rw [hls] at c3
  have q1 := made_ok hT
  clear hT hls
  go_enter Try.func30, Try.ntmps30
  go_wp2_with (go_at_call 57; refine q1.mono ?_; rintro e w' ⟨rfl, rfl⟩)
  go_ret
  exact ⟨rfl, rfl⟩

/-- Nodes in cells that a walk can load. -/
def NodesIn (w : World) (v : Value) (L : List Nd) : Prop := ∃ g cap, v = .slice (some ⟨g, 0, none⟩) L.length cap ∧ ∀ (i : Nat) (x : Nd), L[i]? = some x → w.cell? ⟨g, i * 3, none⟩ = some (i6 x.1) ∧ w.cell? ⟨g, i * 3 + 1, none⟩ = some (i6 x.2.1) ∧ w.cell? ⟨g, i * 3 + 2, none⟩ = some (i6 x.2.2)
theorem nodesIn_of {w : World} {v : Value} {L : List Nd} (h : w.ownsRow 0 82 3 v L.length (flat L)) (h0 : 0 < L.length) : NodesIn w v L := by
  obtain ⟨g, cap, rfl, _, _⟩ := h.form h0
  refine ⟨g, cap, rfl, fun i x hi => ?_⟩
  have hadd : ∀ j, (⟨g, 0, none⟩ : Addr).add j = ⟨g, j, none⟩ := by intro j; unfold Addr.add; split <;> simp_all
  obtain ⟨f0, f1, f2⟩ := flat_at hi
  have hc := h.cells (g := g) rfl
  have d0 := hc _ _ f0
  have d1 := hc _ _ f1
  have d2 := hc _ _ f2
  rw [hadd] at d0 d1 d2
  exact ⟨d0, d1, d2⟩

set_option maxHeartbeats 1000000 in
theorem SameList_eq (v1 v2 : Value) (L : List Nd) (w : World) (hL : L.length ≤ 1073741826) (h1 : NodesIn w v1 L) (h2 : NodesIn w v2 L) :
    Calls Try.prog 29 #[v1, v2] w fun e w' => e = .returned (.bool true) ∧ Below w.heap.size w w' := by
  obtain ⟨g, c, rfl, hg⟩ := h1
  obtain ⟨g', c', rfl, hg'⟩ := h2
  have HG := keep hg
  have HG' := keep hg'
  clear hg hg'
  obtain ⟨n, hn⟩ : ∃ n, n = L.length := ⟨_, rfl⟩
  have HN := keep hn
  rw [← hn] at hL ⊢
  clear hn
  have hnb : ((n : Int) != (n : Int)) = false := by simp
  go_enter Try.func29, Try.ntmps29
  go_wp2
  clear hnb
  go_loopw [5] (fun i wr => ∃ k : Nat, k ≤ n ∧ i = .int .i64 k ∧ Hid (∃ m, wr = w.drewN m)) (fun i _ => n - (intOf i).toNat)
  case atStart => exact ⟨0, Nat.zero_le _, rfl, 0, rfl⟩
  case round =>
    obtain ⟨k, hk, rfl, HW⟩ := hrel
    obtain ⟨m0, rfl⟩ := HW.out
    by_cases hlt : k < n
    · obtain ⟨x, hx⟩ : ∃ x, L[k]? = some x := ⟨_, List.getElem?_eq_getElem (by rw [← HN.out]; exact hlt)⟩
      obtain ⟨p0, p1, p2⟩ := HG.out k x hx
      obtain ⟨r0, r1, r2⟩ := HG'.out k x hx
      clear hx
      have hkI : (0 : Int) ≤ (k : Int) := by omega
      have hkI2 : (k : Int) < (n : Int) := by omega
      go_wp2
      go_quiet (fail)
      go_wp2
      go_roundw
      case rel => exact ⟨k + 1, by omega, by go_num, _, rfl⟩
      case measure => simp [intOf]; omega
    · go_wp2
      go_ret
      exact ⟨rfl, (Below.refl _ _).trans ⟨rfl, rfl, rfl, Nat.le_refl _, fun _ _ => rfl⟩⟩
end Go.Proofs.Ytffngpdngjfcfaa
