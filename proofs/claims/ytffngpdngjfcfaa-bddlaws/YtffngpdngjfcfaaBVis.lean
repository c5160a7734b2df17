/-
  visit: the order of a list.
-/
import Derived.Test.YtffngpdngjfcfaaBAnd
namespace Go.Proofs.Ytffngpdngjfcfaa
open Go.RowKit Go.Maps
open Bd (Nd)

/-- The numbers that a node needs, in the order of a list, behind those that are there already; those below least are left out. -/
def vis (L : List Nd) (least : Nat) : Nat → Nat → List Nat → List Nat
  | 0, _, acc => acc
  | k + 1, n, acc => if n < least then acc else if n ∈ acc then acc else vis L least k (L.getD (n - 2) (0, 0, 0)).2.2 (vis L least k (L.getD (n - 2) (0, 0, 0)).2.1 acc) ++ [n]

/-- Nodes lead to lesser numbers. -/
def Falls (L : List Nd) : Prop := ∀ i x, L[i]? = some x → x.2.1 < i + 2 ∧ x.2.2 < i + 2
theorem Bd.Okay.falls {bits : Nat} {L : List Nd} (h : Bd.Okay bits L) : Falls L := fun i x hx => ⟨(h.fit i x hx).1, (h.fit i x hx).2.1⟩

theorem Falls.at {L : List Nd} (h : Falls L) {n : Nat} (h2 : 2 ≤ n) (hn : n < L.length + 2) : (L.getD (n - 2) (0, 0, 0)).2.1 < n ∧ (L.getD (n - 2) (0, 0, 0)).2.2 < n ∧ L[n - 2]? = some (L.getD (n - 2) (0, 0, 0)) := by
  have hx : L[n - 2]? = some L[n - 2] := List.getElem?_eq_getElem (by omega)
  have e : L.getD (n - 2) (0, 0, 0) = L[n - 2] := by rw [List.getD_eq_getElem?_getD, hx]; rfl
  have := h _ _ hx
  rw [e]
  exact ⟨by omega, by omega, hx⟩

theorem vis_mem (L : List Nd) (least : Nat) (hL : Falls L) (h2 : 2 ≤ least) : ∀ k n acc m, n < L.length + 2 → m ∈ vis L least k n acc → m ∈ acc ∨ (m ≤ n ∧ least ≤ m) := by
  intro k
  induction k with
  | zero => intro n acc m _ hm; exact Or.inl hm
  | succ k ih =>
    intro n acc m hn hm
    unfold vis at hm
    split at hm
    · exact Or.inl hm
    · rename_i hl
      split at hm
      · exact Or.inl hm
      · have hF := hL.at (n := n) (by omega) hn
        rw [List.mem_append] at hm
        rcases hm with hm | hm
        · rcases ih _ _ m (by omega) hm with h | h
          · rcases ih _ _ m (by omega) h with h | h
            · exact Or.inl h
            · exact Or.inr ⟨by omega, h.2⟩
          · exact Or.inr ⟨by omega, h.2⟩
        · simp at hm
          subst hm
          exact Or.inr ⟨Nat.le_refl _, by omega⟩
theorem vis_nodup (L : List Nd) (least : Nat) (hL : Falls L) (h2 : 2 ≤ least) : ∀ k n acc, n < L.length + 2 → acc.Nodup → (vis L least k n acc).Nodup := by
  intro k
  induction k with
  | zero => intro n acc _ h; exact h
  | succ k ih =>
    intro n acc hn h
    unfold vis
    split
    · exact h
    · split
      · exact h
      · rename_i hl hm
        have hF := hL.at (n := n) (by omega) hn
        rw [List.nodup_append]
        refine ⟨ih _ _ (by omega) (ih _ _ (by omega) h), by simp, ?_⟩
        intro a ha b hb e
        simp at hb
        subst hb
        subst e
        rcases vis_mem L least hL h2 _ _ _ _ (by omega) ha with h | h
        · rcases vis_mem L least hL h2 _ _ _ _ (by omega) h with h | h
          · exact hm h
          · omega
        · omega
/-- The numbers that are there lie in the list. -/
theorem vis_lt (L : List Nd) (least : Nat) (hL : Falls L) (h2 : 2 ≤ least) (k n : Nat) (acc : List Nat) (hn : n < L.length + 2) (hacc : ∀ m ∈ acc, least ≤ m ∧ m < L.length + 2) : ∀ m ∈ vis L least k n acc, least ≤ m ∧ m < L.length + 2 := by
  intro m hm
  rcases vis_mem L least hL h2 k n acc m hn hm with h | h
  · exact hacc m h
  · exact ⟨h.2, by omega⟩

/-- A map whose keys are no negative numbers. -/
def Nats (f : Value → Option Int) : Prop := ∀ x : Int, (f (.int .i64 x)).isSome = true → 0 ≤ x
theorem Nats.put {f f' : Value → Option Int} (h : Nats f) {n : Nat} {c : Int} (hu : Upd f (i6 n) (some c) f') : Nats f' := by
  intro x hx
  by_cases e : (Value.int .i64 x) = i6 n
  · have : x = (n : Int) := by cases e; rfl
    omega
  · rw [hu.2 _ e] at hx; exact h x hx

/-- An order in memory. -/
structure OrdAt (w : World) (ob pb : Nat) (lv : Value) (L : List Nd) (least : Nat) (acc : List Nat) : Prop where
  cells : w.heap[ob]? = some (.cells #[lv, i6 least, .map (some pb)] 153 (0, 0))
  list : w.ownsRow 0 82 3 lv L.length (flat L)
  place : ∃ f, MapOf Try.prog 3 3 w pb acc.length f ∧ RefMap least acc f ∧ Nats f

theorem OrdAt.apart {w : World} {ob pb : Nat} {lv : Value} {L : List Nd} {least : Nat} {acc : List Nat} (h : OrdAt w ob pb lv L least acc) : pb ≠ ob ∧ lv.ownBlock ≠ some pb ∧ pb < w.heap.size ∧ ob < w.heap.size := by
  obtain ⟨f, hf, _⟩ := h.place
  obtain ⟨es, c, hm⟩ := map_block hf
  refine ⟨?_, ?_, hf.lt, block_lt h.cells⟩
  · intro e; rw [e, h.cells] at hm; cases hm
  · intro e; obtain ⟨cur, hc⟩ := owned_cells h.list e; rw [hm] at hc; cases hc
/-- What a call may do to an order: its map, and new blocks. -/
structure Only (pb : Nat) (w w' : World) : Prop where
  os : w'.os = w.os
  tape : w'.tape = w.tape
  output : w'.output = w.output
  size : w.heap.size ≤ w'.heap.size
  block : ∀ k, k < w.heap.size → k ≠ pb → w'.heap[k]? = w.heap[k]?
theorem Only.refl (pb : Nat) (w : World) : Only pb w w := ⟨rfl, rfl, rfl, Nat.le_refl _, fun _ _ _ => rfl⟩
theorem Only.trans {pb : Nat} {w w1 w2 : World} (h : Only pb w w1) (h' : Only pb w1 w2) : Only pb w w2 :=
  ⟨h'.os.trans h.os, h'.tape.trans h.tape, h'.output.trans h.output, Nat.le_trans h.size h'.size, fun k hk hn => (h'.block k (Nat.lt_of_lt_of_le hk h.size) hn).trans (h.block k hk hn)⟩
theorem Only.of_below {pb : Nat} {w w' : World} (h : Below w.heap.size w w') : Only pb w w' := ⟨h.os, h.tape, h.output, h.size, fun k hk _ => h.block k hk⟩
theorem OrdAt.only {w w' : World} {ob pb : Nat} {lv : Value} {L : List Nd} {least : Nat} {acc acc' : List Nat} (h : OrdAt w ob pb lv L least acc) (hm : Only pb w w') (hp : ∃ f, MapOf Try.prog 3 3 w' pb acc'.length f ∧ RefMap least acc' f ∧ Nats f) : OrdAt w' ob pb lv L least acc' := by
  obtain ⟨a1, a2, a3, a4⟩ := h.apart
  exact ⟨(hm.block ob a4 (fun e => a1 e.symm)).trans h.cells, row_same h.list fun g hg => hm.block g (h.list.lt g hg).2 (fun e => a2 (by rw [← e]; exact hg)), hp⟩
theorem OrdAt.below {w w' : World} {ob pb : Nat} {lv : Value} {L : List Nd} {least : Nat} {acc : List Nat} (h : OrdAt w ob pb lv L least acc) (hb : Below w.heap.size w w') : OrdAt w' ob pb lv L least acc := by
  obtain ⟨f, hf, hr, hz⟩ := h.place
  exact h.only (Only.of_below hb) ⟨f, hf.same (hb.block _ hf.lt), hr, hz⟩

theorem MapOf.block {P : Program} {k e : TypeId} {w : World} {b sz : Nat} {f : Value → Option Int} (h : MapOf P k e w b sz f) : ∃ es c, w.heap[b]? = some (.map es c) ∧ es.size = sz := by
  obtain ⟨D, ⟨es, clock, hb, F, hs, hD⟩, h2, h3⟩ := h
  exact ⟨es, clock, hb, by rw [← h2, hD]; simp [Maps.size, length_sorted]⟩

set_option maxHeartbeats 4000000 in
theorem visit_any (ob pb : Nat) (lv : Value) (L : List Nd) (least : Nat) (hL : Falls L) (hlen : L.length ≤ 1073741824) (h2 : 2 ≤ least) (hle : least ≤ 1073741824) : ∀ (k n : Nat) (acc : List Nat) (w : World), n < k → n < L.length + 2 → OrdAt w ob pb lv L least acc → acc.Nodup → (∀ m ∈ acc, least ≤ m ∧ m < L.length + 2) →
    Calls Try.prog 89 #[.pointer (some ⟨ob, 0, none⟩), i6 n] w fun e w' => e = .returned (.tuple #[]) ∧ OrdAt w' ob pb lv L least (vis L least k n acc) ∧ Only pb w w' := by
  intro k
  induction k with
  | zero => intro n acc w h; omega
  | succ k ih =>
    intro n acc w hnk hn hO hnd hacc
    have c0 : w.cell? ⟨ob, 0, none⟩ = some lv := by rw [cell_at hO.cells]; rfl
    have c1 : w.cell? ⟨ob, 1, none⟩ = some (.int .i64 least) := by rw [cell_at hO.cells]; rfl
    have c2 : w.cell? ⟨ob, 2, none⟩ = some (.map (some pb)) := by rw [cell_at hO.cells]; rfl
    by_cases hl : n < least
    · have HR : Hid (OrdAt w ob pb lv L least (vis L least (k + 1) n acc)) := by
        have e : vis L least (k + 1) n acc = acc := by unfold vis; rw [if_pos hl]
        rw [e]; exact hO
      have hlI : (n : Int) < (least : Int) := by omega
      clear hO ih
      go_enter Try.func89, Try.ntmps89
      go_wp2_with fail
      exact bodyPost_ret (v := .tuple #[]) (by simp [results, Try.results89, go_sem]) rfl ⟨rfl, HR.out, Only.refl _ _⟩
    · have hlI : ¬ ((n : Int) < (least : Int)) := by omega
      obtain ⟨f, hf, hr, _⟩ := hO.place
      obtain ⟨kl, hkl⟩ := key_int (a := n) (by omega)
      have hlook := MapOf.look hf kInt Try.underlying151 Try.underlying3 (zero_int _) hkl
      by_cases hin : n ∈ acc
      · obtain ⟨j, hj, hx⟩ := List.getElem_of_mem hin
        have hx' : acc[j]? = some n := by rw [List.getElem?_eq_getElem hj, hx]
        have hfx : f (i6 n) = some ((least + j : Nat) : Int) := (hr n).1 j hx'
        rw [hfx] at hlook
        simp only [Option.getD_some, Option.isSome_some, i6] at hlook
        have HR : Hid (OrdAt w ob pb lv L least (vis L least (k + 1) n acc)) := by
          have e : vis L least (k + 1) n acc = acc := by unfold vis; rw [if_neg hl, if_pos hin]
          rw [e]; exact hO
        obtain ⟨q, hq⟩ : ∃ q, q = least + j := ⟨_, rfl⟩
        rw [← hq] at hlook
        clear hO ih hf hr hfx hx hx' hin hkl hj hq
        go_enter Try.func89, Try.ntmps89
        go_wp2_with fail
        exact bodyPost_ret (v := .tuple #[]) (by simp [results, Try.results89, go_sem]) rfl ⟨rfl, HR.out, Only.refl _ _⟩
      · have hfx : f (i6 n) = none := (hr n).2 hin
        rw [hfx] at hlook
        simp only [Option.getD_none, Option.isSome_none, i6] at hlook
        have hFall := hL.at (n := n) (by omega) hn
        have evis : vis L least (k + 1) n acc = vis L least k (L.getD (n - 2) (0, 0, 0)).2.2 (vis L least k (L.getD (n - 2) (0, 0, 0)).2.1 acc) ++ [n] := by
          conv => lhs; unfold vis
          rw [if_neg hl, if_neg hin]
        obtain ⟨x, hx⟩ : ∃ x, x = L.getD (n - 2) (0, 0, 0) := ⟨_, rfl⟩
        rw [← hx] at hFall evis
        obtain ⟨i, rfl⟩ : ∃ i, n = i + 2 := ⟨n - 2, by omega⟩
        have hxi : L[i]? = some x := by have := hFall.2.2; simpa using this
        obtain ⟨g, cap, hlv, _, hgl⟩ := hO.list.form (by omega)
        have hadd : ∀ j, (⟨g, 0, none⟩ : Addr).add j = ⟨g, j, none⟩ := by intro j; unfold Addr.add; split <;> simp_all
        obtain ⟨f0, f1, f2⟩ := flat_at hxi
        have hcl := hO.list.cells (g := g) (by rw [hlv]; rfl)
        have d0 := hcl _ _ f0
        have d1 := hcl _ _ f1
        have d2 := hcl _ _ f2
        rw [hadd] at d0 d1 d2
        rw [hlv] at c0
        have hap := hO.apart
        have hWb : Below w.heap.size w (w.alloc (.cells #[.int .i64 x.1, .int .i64 x.2.1, .int .i64 x.2.2] 82)) := (Below.refl _ _).alloc (Nat.le_refl _) _
        have hO1 := hO.below hWb
        have hbx := heap_alloc_new w (.cells #[.int .i64 x.1, .int .i64 x.2.1, .int .i64 x.2.2] 82)
        have HV : Hid (Calls Try.prog 89 #[.pointer (some ⟨ob, 0, none⟩), i6 x.2.1] (w.alloc (.cells #[.int .i64 x.1, .int .i64 x.2.1, .int .i64 x.2.2] 82)) fun e w1 => e = .returned (.tuple #[]) ∧ w1.cell? ⟨w.heap.size, 2, none⟩ = some (.int .i64 x.2.2) ∧
            Hid (Calls Try.prog 89 #[.pointer (some ⟨ob, 0, none⟩), i6 x.2.2] w1 fun e w2 => e = .returned (.tuple #[]) ∧ w2.cell? ⟨ob, 1, none⟩ = some (.int .i64 least) ∧ w2.cell? ⟨ob, 2, none⟩ = some (.map (some pb)) ∧ ∃ (q : Nat) (w4 : World), (Builtin.len_ #[151] 3 #[.map (some pb)]).run Try.prog w2.drew = .ok (.int .i64 q) w2.drew ∧ q ≤ 1073741826 ∧
              (Instr.mapUpdate 151 (.map (some pb)) (.int .i64 ((i : Int) + 2)) (.int .i64 ((least : Int) + (q : Int)))).run Try.prog w2.drew = .ok () w4 ∧ Hid (OrdAt w4 ob pb lv L least (vis L least (k + 1) (i + 2) acc) ∧ Only pb w w4))) := by
          refine (ih x.2.1 acc _ (by omega) (by omega) hO1 hnd hacc).mono ?_
          rintro e w1 ⟨rfl, o1, m1⟩
          have b1 := m1.block w.heap.size (by simp) (by omega)
          refine ⟨rfl, ?_, ?_⟩
          · have : w1.heap[w.heap.size]? = _ := b1.trans hbx
            rw [cell_at this]; rfl
          · refine (ih x.2.2 _ w1 (by omega) (by omega) o1 (vis_nodup L least hL h2 _ _ _ (by omega) hnd) (vis_lt L least hL h2 _ _ _ (by omega) hacc)).mono ?_
            rintro e w2 ⟨rfl, o2, m2⟩
            have hnd2 := vis_nodup L least hL h2 k x.2.2 _ (by omega) (vis_nodup L least hL h2 k x.2.1 acc (by omega) hnd)
            have hlt2 := vis_lt L least hL h2 k x.2.2 _ (by omega) (vis_lt L least hL h2 k x.2.1 acc (by omega) hacc)
            have hmem2 : i + 2 ∉ vis L least k x.2.2 (vis L least k x.2.1 acc) := by
              intro hm
              rcases vis_mem L least hL h2 _ _ _ _ (by omega) hm with h | h
              · rcases vis_mem L least hL h2 _ _ _ _ (by omega) h with h | h
                · exact hin h
                · omega
              · omega
            generalize vis L least k x.2.2 (vis L least k x.2.1 acc) = acc2 at *
            obtain ⟨fp, hfp, hrp, hzp⟩ := o2.place
            have hcount : acc2.length ≤ L.length + 2 := by
              refine Bd.pigeon (L.length + 2) acc2.length (fun j => acc2.getD j 0) ?_ ?_
              · intro j hj
                show acc2.getD j 0 < _
                rw [List.getD_eq_getElem?_getD, List.getElem?_eq_getElem hj]
                exact (hlt2 _ (List.getElem_mem hj)).2
              · intro p q hp hq hpq
                have hpq' : acc2.getD p 0 = acc2.getD q 0 := hpq
                rw [List.getD_eq_getElem?_getD, List.getElem?_eq_getElem hp, List.getD_eq_getElem?_getD, List.getElem?_eq_getElem hq] at hpq'
                exact (List.getElem_inj (h₀ := hp) (h₁ := hq) hnd2).1 hpq'
            obtain ⟨w4, hrun, hput, hg4⟩ := MapOf.put_run (w := w2.drew) (hfp.same rfl) kInt Try.underlying151 Try.underlying3 (by unfold maxLen; omega) hkl (c := ((least + acc2.length : Nat) : Int)) (wf64 (by omega))
            refine ⟨rfl, by rw [cell_at o2.cells]; rfl, by rw [cell_at o2.cells]; rfl, acc2.length, w4, (hfp.same (w' := w2.drew) rfl).len Try.underlying151 _, by omega, ?_, ?_⟩
            · have e1 : ((least + acc2.length : Nat) : Int) = (least : Int) + (acc2.length : Int) := by omega
              have e2 : ((i + 2 : Nat) : Int) = (i : Int) + 2 := by omega
              rw [← e1, ← e2]; exact hrun
            · have hm4 : Only pb w2 w4 := ⟨hg4.os, hg4.tape, hg4.output, hg4.size, fun j hj hne => hg4.block j hj (fun e => hne (by cases e; rfl))⟩
              rw [evis]
              obtain ⟨fn, hfn⟩ := upd_exists fp (i6 (i + 2)) (some ((least + acc2.length : Nat) : Int))
              have hfnone : fp (i6 (i + 2)) = none := (hrp _).2 hmem2
              have hm := hput fn hfn
              rw [hfnone] at hm
              refine ⟨o2.only hm4 ⟨fn, ?_, hrp.snoc hmem2 hfn, hzp.put hfn⟩, ((Only.of_below hWb).trans m1).trans (m2.trans hm4)⟩
              have e : (acc2 ++ [i + 2]).length = acc2.length + 1 := by simp
              rw [e]
              simpa using hm
        have e1 : ((i + 2 : Nat) : Int) = (i : Int) + 2 := by omega
        have hiI : (i : Int) < (L.length : Int) := by omega
        have hlenI : (L.length : Int) ≤ 1073741824 := by omega
        have hleI : (least : Int) ≤ 1073741824 := by omega
        simp only [i6, e1] at hlI hlook d0 d1 d2 ⊢
        obtain ⟨len, hlen0⟩ : ∃ len, len = L.length := ⟨_, rfl⟩
        rw [← hlen0] at c0 hiI hlenI
        clear hO ih hf hr hfx hin hkl hFall hx hxi hcl f0 f1 f2 hadd hO1 hWb hbx evis hlen0 hnd hacc hlv hnk hn
        go_enter Try.func89, Try.ntmps89
        go_wp2_with fail
        refine HV.out.mono ?_
        rintro e w1 ⟨rfl, q2, HV2⟩
        go_wp2_with fail
        refine HV2.out.mono ?_
        rintro e w2 ⟨rfl, p1, p2, q, w4, hln, hqz, hrun, HO⟩
        have hqI : (q : Int) ≤ 1073741826 := by omega
        go_wp2_with fail
        go_region
        go_end0
        exact ⟨rfl, HO.out⟩
end Go.Proofs.Ytffngpdngjfcfaa
