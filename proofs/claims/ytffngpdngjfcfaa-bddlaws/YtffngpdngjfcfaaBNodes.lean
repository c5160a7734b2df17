/-
  nodes: the walk.
-/
import Derived.Test.YtffngpdngjfcfaaBNames
namespace Go.Proofs.Ytffngpdngjfcfaa
open Go.RowKit Go.Maps
open Bd (Nd)

theorem laid_row {w : World} {g : Nat} {cs : Array Value} {L : List Nd} {acc : List Nat} {least : Nat} (h : Laid cs L acc least (fun _ => false)) (hb : w.heap[g]? = some (.cells cs 82 (0, 0))) (hn : acc.length ≤ 1073741826) :
    w.ownsRow 0 82 3 (.slice (some ⟨g, 0, none⟩) acc.length acc.length) acc.length (flat (acc.map (rn L acc least))) := by
  have hlen : (flat (acc.map (rn L acc least))).length = acc.length * 3 := by rw [flat_length, List.length_map]
  refine ⟨hlen, Or.inr ⟨g, acc.length, cs, rfl, Nat.zero_le _, hb, Nat.le_refl _, by unfold maxLen; omega, h.1, ?_⟩⟩
  apply List.ext_getElem?
  intro z
  have hz : z = (z / 3) * 3 + z % 3 := by omega
  by_cases hlt : z < acc.length * 3
  · rw [List.getElem?_take, if_pos hlt]
    have hj : z / 3 < acc.length := by omega
    have hacc : acc[z / 3]? = some acc[z / 3] := List.getElem?_eq_getElem hj
    have hm : (acc.map (rn L acc least))[z / 3]? = some (rn L acc least acc[z / 3]) := by rw [List.getElem?_map, hacc]; rfl
    obtain ⟨f0, f1, f2⟩ := flat_at hm
    obtain ⟨c0, c1, c2⟩ := h.2 _ _ hacc rfl
    have h3 : z % 3 = 0 ∨ z % 3 = 1 ∨ z % 3 = 2 := by omega
    rcases h3 with h3 | h3 | h3
    · have e : z = (z / 3) * 3 := by omega
      rw [e, f0]; simpa using c0
    · have e : z = (z / 3) * 3 + 1 := by omega
      rw [e]
      have e2 : ((z / 3 * 3 + 1) / 3) = z / 3 := by omega
      rw [f1]; simpa using c1
    · have e : z = (z / 3) * 3 + 2 := by omega
      rw [e, f2]; simpa using c2
  · rw [List.getElem?_eq_none (by rw [List.length_take]; omega), List.getElem?_eq_none (by rw [hlen]; omega)]

set_option maxRecDepth 4000 in
set_option maxHeartbeats 4000000 in
theorem nodes_any {w : World} {ob pb : Nat} {lv : Value} {L : List Nd} {least : Nat} {acc : List Nat} (hO : OrdAt w ob pb lv L least acc) (hnd : acc.Nodup) (hacc : ∀ m ∈ acc, least ≤ m ∧ m < L.length + 2) (h2 : 2 ≤ least) (hL : Falls L) (hlen : L.length ≤ 1073741824) (hle : least ≤ 1073741824) (hn : acc.length ≤ 1073741826) :
    Calls Try.prog 63 #[.pointer (some ⟨ob, 0, none⟩)] w fun e w' => e = .returned (.slice (some ⟨w.heap.size, 0, none⟩) acc.length acc.length) ∧ w'.ownsRow 0 82 3 (.slice (some ⟨w.heap.size, 0, none⟩) acc.length acc.length) acc.length (flat (acc.map (rn L acc least))) ∧ Below w.heap.size w w' := by
  have c0 : w.cell? ⟨ob, 0, none⟩ = some lv := by rw [cell_at hO.cells]; rfl
  have c1 : w.cell? ⟨ob, 1, none⟩ = some (.int .i64 least) := by rw [cell_at hO.cells]; rfl
  have c2 : w.cell? ⟨ob, 2, none⟩ = some (.map (some pb)) := by rw [cell_at hO.cells]; rfl
  obtain ⟨f, hf, hr, hz⟩ := hO.place
  have hap := hO.apart
  have hln : (Builtin.len_ #[151] 3 #[.map (some pb)]).run Try.prog w = .ok (.int .i64 acc.length) w := hf.len Try.underlying151 _
  obtain ⟨D, hown, hsz, hview⟩ := hf
  have HO := keep hO
  have HR := keep hr
  have HZ := keep hz
  have HOWN := keep hown
  have HV := keep hview
  have HND := keep hnd
  have HACC := keep hacc
  have HL := keep hL
  obtain ⟨n, hnn⟩ : ∃ n, n = acc.length := ⟨_, rfl⟩
  have HN := keep hnn
  have hmk := run_blanks n (by omega)
  rw [← hnn] at hln HOWN hn ⊢
  clear hO hr hz hown hview hnd hacc hL hnn hsz
  have c2a : ∀ o, (w.alloc o).cell? ⟨ob, 2, none⟩ = some (.map (some pb)) := fun o => by rw [World.cell?_of_block (heap_alloc_old w o hap.2.2.2)]; exact c2
  go_enter Try.func63, Try.ntmps63
  go_wp2_with (first | (at_range; refine wpList_range_own _ rfl (.tmp 16) 151 rfl 3 3 kInt Try.underlying151 (plainElem Try.prog 3) pb n D rfl (HOWN.out.alloc _) ?_; intro w0 hrg0 hg0 hs0) | go_in)
  have e1 : (w.alloc (.cells (blanks n) 82)).heap.size = w.heap.size + 1 := by simp
  rw [e1] at hrg0 hs0 ⊢
  have HB0 : Hid (Below w.heap.size w w0) := by
    have h := (Below.refl w.heap.size w).alloc (Nat.le_refl _) (.cells (blanks n) 82)
    exact ⟨hg0.os.trans h.os, hg0.tape.trans h.tape, hg0.output.trans h.output, by omega, fun k hk => (hg0.block k (by rw [e1]; omega) (by simp)).trans (h.block k hk)⟩
  have HC0 : Hid (w0.heap[w.heap.size]? = some (.cells (blanks n) 82 (0, 0))) := (hg0.block _ (by rw [e1]; omega) (by simp)).trans (heap_alloc_new w _)
  have HS0 : Hid (Laid (blanks n) L acc least (Maps.has D)) := by
    refine ⟨by rw [blanks_size, HN.out], fun j m hj hm => ?_⟩
    obtain ⟨kl, hkl⟩ := key_int (a := m) (by have := HACC.out m (List.mem_of_getElem? hj); omega)
    have hkl2 : kl = .int .i64 (m : Int) := by have := keyOf_int_mk (P := Try.prog) Try.underlying3 (a := (m : Int)) (wf64 (by have := HACC.out m (List.mem_of_getElem? hj); omega)); rw [hkl] at this; exact Option.some.inj this
    subst hkl2
    have := (HV.out _ _ hkl).1
    rw [hm, (HR.out m).1 j hj] at this
    cases this
  have HRG := keep hrg0
  clear hrg0 hg0
  go_frame
  go_loopw [4] (fun _ wr => ∃ (left : Lit → Bool) (cnt : Nat) (cs : Array Value), wr.ranges Try.prog 3 (plainElem (H := Unit) Try.prog 3) pb (w.heap.size + 1) n D left cnt ∧ wr.heap[w.heap.size]? = some (.cells cs 82 (0, 0)) ∧ Laid cs L acc least left ∧ Below w.heap.size w wr) (fun _ wr => wr.rangeLeft pb (w.heap.size + 1))
  case atStart => exact ⟨_, _, _, HRG.out, HC0.out, HS0.out, HB0.out⟩
  case round =>
    obtain ⟨left, cnt, cs, hrg, hcs, hlaid, hB⟩ := hrel
    have HCS := keep hcs
    have HLD := keep hlaid
    have HB := keep hB
    clear hcs hlaid hB
    go_wp2_with (first | (at_next; refine wpList_next_ranges_ii _ rfl (.tmp 17) rfl 3 3 .i64 .i64 kInt Try.underlying3 Try.underlying3 pb (w.heap.size + 1) n D left cnt rfl hrg ?_ ?_) | go_in)
    · intro _ hl0
      have hend : left = fun _ => false := funext hl0
      have HD := HLD.out
      rw [hend] at HD
      have HROW := keep (laid_row HD HCS.out (by rw [← HN.out]; exact hn))
      clear HD hend hl0
      go_wp2
      go_ret
      refine ⟨rfl, ?_, HB.out⟩
      have := HROW.out
      rw [← HN.out] at this
      exact this
    · intro x c w1 cnt1 hwx hwc hlx hat hrg1 hlt hg1 hs1 hen
      have keyx : keyOf Try.prog 3 (.int .i64 x) = some (.int .i64 x) := keyOf_int_mk Try.underlying3 hwx
      obtain ⟨v1, v2⟩ := HV.out _ _ keyx
      rw [Maps.has_true_of_atKey hat] at v1
      obtain ⟨v, hfv⟩ := Option.isSome_iff_exists.1 v1.symm
      have hx0 := HZ.out x v1.symm
      obtain ⟨m, rfl⟩ : ∃ m : Nat, x = (m : Int) := ⟨x.toNat, by omega⟩
      have hmem : m ∈ acc := by
        rcases Classical.em (m ∈ acc) with h | h
        · exact h
        · have := (HR.out m).2 h
          have e : f (i6 m) = some v := hfv
          rw [e] at this
          cases this
      obtain ⟨j, hj⟩ : ∃ j, acc[j]? = some m := ⟨_, idx_at hmem⟩
      have hcj : c = ((least + j : Nat) : Int) := by
        have h1 := v2 _ ((HR.out m).1 j hj)
        rw [hat] at h1
        cases h1
        rfl
      have hma := HACC.out m hmem
      have hFall := HL.out.at (n := m) (by omega) hma.2
      have hjl := Bd.getElem?_lt hj
      have hjn : j < n := by rw [HN.out]; exact hjl
      obtain ⟨xn, hxn⟩ : ∃ xn, xn = L.getD (m - 2) (0, 0, 0) := ⟨_, rfl⟩
      rw [← hxn] at hFall
      obtain ⟨i, rfl⟩ : ∃ i, m = i + 2 := ⟨m - 2, by omega⟩
      have hxi : L[i]? = some xn := by have := hFall.2.2; simpa using this
      have hBw1 : Below w.heap.size w w1 := ⟨hg1.os.trans HB.out.os, hg1.tape.trans HB.out.tape, hg1.output.trans HB.out.output, by rw [hs1]; exact HB.out.size, fun k hk => (hg1.block k (by have := HB.out.size; omega) (by simp; omega)).trans (HB.out.block k hk)⟩
      have hO1 := HO.out.below hBw1
      have hcs1 : w1.heap[w.heap.size]? = some (.cells cs 82 (0, 0)) := (hg1.block _ (block_lt HCS.out) (by simp)).trans HCS.out
      obtain ⟨g, cap, hlv, _, hgl⟩ := HO.out.list.form (by omega)
      have hadd : ∀ j, (⟨g, 0, none⟩ : Addr).add j = ⟨g, j, none⟩ := by intro j; unfold Addr.add; split <;> simp_all
      obtain ⟨f0, f1, f2⟩ := flat_at hxi
      have hcl := hO1.list.cells (g := g) (by rw [hlv]; rfl)
      have d0 := hcl _ _ f0
      have d1 := hcl _ _ f1
      have d2 := hcl _ _ f2
      rw [hadd] at d0 d1 d2
      have k0 : w1.cell? ⟨ob, 0, none⟩ = some (.slice (some ⟨g, 0, none⟩) L.length cap) := by rw [hBw1.cell (by exact hap.2.2.2), ← hlv]; exact c0
      have k1 : w1.cell? ⟨ob, 1, none⟩ = some (.int .i64 least) := by rw [hBw1.cell (by exact hap.2.2.2)]; exact c1
      have l1 := block_lt hcs1
      have lob : ob < w1.heap.size := Nat.lt_of_lt_of_le hap.2.2.2 hBw1.size
      have oldA : ∀ o k, k < w1.heap.size → (w1.alloc o).heap[k]? = w1.heap[k]? := fun o k hk => heap_alloc_old w1 o hk
      have HNM : Hid (∀ q, q < 9223372036854775808 → Calls Try.prog 90 #[.pointer (some ⟨ob, 0, none⟩), .int .i64 (q : Nat)] (w1.alloc (.cells #[.int .i64 xn.1, .int .i64 xn.2.1, .int .i64 xn.2.2] 82)).drew fun e w' => e = .returned (.int .i64 (nm acc least q : Nat)) ∧ w' = (w1.alloc (.cells #[.int .i64 xn.1, .int .i64 xn.2.1, .int .i64 xn.2.2] 82)).drew) := by
        intro q hq
        exact name_any (hO1.below ((Below.refl _ _).alloc (Nat.le_refl _) _).drew) q hq
      have blo : xn.2.1 < 9223372036854775808 := by omega
      have bhi : xn.2.2 < 9223372036854775808 := by omega
      have k1a : ∀ o, (w1.alloc o).cell? ⟨ob, 1, none⟩ = some (.int .i64 least) := fun o => by rw [World.cell?_of_block (oldA o ob lob)]; exact k1
      have hcsz : cs.size = n * 3 := by rw [HN.out]; exact HLD.out.1
      have t0 : ∀ o, ∃ u, (w1.alloc o).cell? ⟨w.heap.size, j * 3, none⟩ = some u := fun o => ⟨cs[j * 3]'(by omega), by rw [World.cell?_of_block (oldA o _ l1), cell_at hcs1, Array.getElem?_eq_getElem]⟩
      have t1 : ∀ o, ∃ u, (w1.alloc o).cell? ⟨w.heap.size, j * 3 + 1, none⟩ = some u := fun o => ⟨cs[j * 3 + 1]'(by omega), by rw [World.cell?_of_block (oldA o _ l1), cell_at hcs1, Array.getElem?_eq_getElem]⟩
      have t2 : ∀ o, ∃ u, (w1.alloc o).cell? ⟨w.heap.size, j * 3 + 2, none⟩ = some u := fun o => ⟨cs[j * 3 + 2]'(by omega), by rw [World.cell?_of_block (oldA o _ l1), cell_at hcs1, Array.getElem?_eq_getElem]⟩
      obtain ⟨u0, z0⟩ := t0 (.cells #[.int .i64 xn.1, .int .i64 xn.2.1, .int .i64 xn.2.2] 82)
      obtain ⟨u1, z1⟩ := t1 (.cells #[.int .i64 xn.1, .int .i64 xn.2.1, .int .i64 xn.2.2] 82)
      obtain ⟨u2, z2⟩ := t2 (.cells #[.int .i64 xn.1, .int .i64 xn.2.1, .int .i64 xn.2.2] 82)
      have zf : ∀ q, (w1.alloc (.cells #[.int .i64 xn.1, .int .i64 xn.2.1, .int .i64 xn.2.2] 82)).frozen? ⟨w.heap.size, q, none⟩ = false := fun q => by rw [World.frozen?_of_block (oldA _ _ l1)]; exact not_frozen hcs1
      have ei : ((i + 2 : Nat) : Int) = (i : Int) + 2 := by omega
      have ec : ((least + j : Nat) : Int) = (least : Int) + (j : Int) := by omega
      have hw1 : IntKind.i64.wrap ((least : Int) + (j : Int) - (least : Int)) = (least : Int) + (j : Int) - (least : Int) := by
        rw [IntKind.wrap_i64]
        omega
      have hw2 : wrap64 ((least : Int) + (j : Int) - (least : Int)) = (least : Int) + (j : Int) - (least : Int) := by unfold wrap64; omega
      have hjI : (j : Int) < (n : Int) := by omega
      have hj0 : (0 : Int) ≤ (j : Int) := by omega
      have hb1 : (0 : Int) ≤ (least : Int) + (j : Int) - (least : Int) := by omega
      have hb2 : (least : Int) + (j : Int) - (least : Int) < (n : Int) := by omega
      have hb3 : ((least : Int) + (j : Int) - (least : Int)).toNat = j := by omega
      have hb4 : (least : Int) ≤ (least : Int) + (j : Int) := by omega
      have hb5 : (least : Int) + (j : Int) < (n : Int) + (least : Int) := by omega
      have hb6 : least ≤ least + j := by omega
      have hb7 : least + j < n + least := by omega
      have hiI : (i : Int) < (L.length : Int) := by omega
      have hlI : (L.length : Int) ≤ 1073741824 := by omega
      have hleI : (least : Int) ≤ 1073741824 := by omega
      have hnI : (n : Int) ≤ 1073741826 := by omega
      rw [ec] at hcj
      subst hcj
      rw [ei] at hen hrg1 ⊢
      have HFIN : Hid (∃ (left : Lit → Bool) (cnt : Nat) (cs : Array Value), World.ranges (World.setCell (World.setCell (World.setCell (w1.alloc (.cells #[.int .i64 xn.1, .int .i64 xn.2.1, .int .i64 xn.2.2] 82)).drew ⟨w.heap.size, j * 3, none⟩ (.int .i64 xn.1)) ⟨w.heap.size, j * 3 + 1, none⟩ (.int .i64 (nm acc least xn.2.1 : Nat))) ⟨w.heap.size, j * 3 + 2, none⟩ (.int .i64 (nm acc least xn.2.2 : Nat))) Try.prog 3 (plainElem (H := Unit) Try.prog 3) pb (w.heap.size + 1) n D left cnt ∧
          (World.setCell (World.setCell (World.setCell (w1.alloc (.cells #[.int .i64 xn.1, .int .i64 xn.2.1, .int .i64 xn.2.2] 82)).drew ⟨w.heap.size, j * 3, none⟩ (.int .i64 xn.1)) ⟨w.heap.size, j * 3 + 1, none⟩ (.int .i64 (nm acc least xn.2.1 : Nat))) ⟨w.heap.size, j * 3 + 2, none⟩ (.int .i64 (nm acc least xn.2.2 : Nat))).heap[w.heap.size]? = some (.cells cs 82 (0, 0)) ∧ Laid cs L acc least left ∧
          Below w.heap.size w (World.setCell (World.setCell (World.setCell (w1.alloc (.cells #[.int .i64 xn.1, .int .i64 xn.2.1, .int .i64 xn.2.2] 82)).drew ⟨w.heap.size, j * 3, none⟩ (.int .i64 xn.1)) ⟨w.heap.size, j * 3 + 1, none⟩ (.int .i64 (nm acc least xn.2.1 : Nat))) ⟨w.heap.size, j * 3 + 2, none⟩ (.int .i64 (nm acc least xn.2.2 : Nat))) ∧ cnt < cnt1 + 1) := by
        have hb0 : Below w.heap.size w (w1.alloc (.cells #[.int .i64 xn.1, .int .i64 xn.2.1, .int .i64 xn.2.2] 82)).drew := (hBw1.alloc hBw1.size _).drew
        have hbl : (w1.alloc (.cells #[.int .i64 xn.1, .int .i64 xn.2.1, .int .i64 xn.2.2] 82)).drew.heap[w.heap.size]? = _ := (oldA _ _ l1).trans hcs1
        have hrn : rn L acc least (i + 2) = (xn.1, nm acc least xn.2.1, nm acc least xn.2.2) := by unfold rn; rw [← hxn]
        have hsk : ∀ q : Nat, q ≠ i + 2 → (Lit.int .i64 (q : Int)).sameKey (.int .i64 ((i : Int) + 2)) = false := by
          intro q hq
          apply Maps.sameKey_ne
          intro e
          have e2 : (q : Int) = (i : Int) + 2 := by cases e; omega
          omega
        have hLP := HLD.out.put HND.out hj (fun z => left z && !z.sameKey (.int .i64 ((i : Int) + 2))) (fun q hq => by
          show (left (.int .i64 (q : Int)) && !(Lit.int .i64 (q : Int)).sameKey (.int .i64 ((i : Int) + 2))) = _
          rw [hsk q hq]
          simp)
        rw [hrn] at hLP
        refine ⟨_, cnt1, _, hrg1.kept (row := some w.heap.size) ⟨rfl, rfl, rfl, by simp, fun k hk hne => ?_⟩ ?_ ?_, set_block _ (set_block _ (set_block _ hbl)), hLP, ((hb0.setCell (Nat.le_refl _) _).setCell (Nat.le_refl _) _).setCell (Nat.le_refl _) _, by omega⟩
        · have hk' : k ≠ w.heap.size := fun e => hne (by rw [e])
          rw [set_other _ hk', set_other _ hk', set_other _ hk']
          exact oldA _ k hk
        · simp; have := hap.2.2.1; omega
        · simp
      have HNEST : Hid (Calls Try.prog 90 #[.pointer (some ⟨ob, 0, none⟩), .int .i64 (xn.2.1 : Nat)] (w1.alloc (.cells #[.int .i64 xn.1, .int .i64 xn.2.1, .int .i64 xn.2.2] 82)).drew fun e w2 => e = .returned (.int .i64 (nm acc least xn.2.1 : Nat)) ∧ (w2.cell? ⟨ob, 1, none⟩ = some (.int .i64 least) ∧ w2.cell? ⟨w1.heap.size, 0, none⟩ = some (.int .i64 xn.1) ∧ w2.cell? ⟨w1.heap.size, 1, none⟩ = some (.int .i64 xn.2.1) ∧ w2.cell? ⟨w1.heap.size, 2, none⟩ = some (.int .i64 xn.2.2)) ∧
          Hid (Calls Try.prog 90 #[.pointer (some ⟨ob, 0, none⟩), .int .i64 (xn.2.2 : Nat)] w2 fun e w3 => e = .returned (.int .i64 (nm acc least xn.2.2 : Nat)) ∧ (w3.cell? ⟨ob, 1, none⟩ = some (.int .i64 least) ∧ w3.cell? ⟨w1.heap.size, 0, none⟩ = some (.int .i64 xn.1) ∧ w3.cell? ⟨w1.heap.size, 1, none⟩ = some (.int .i64 xn.2.1) ∧ w3.cell? ⟨w1.heap.size, 2, none⟩ = some (.int .i64 xn.2.2)) ∧
            w3.cell? ⟨w.heap.size, j * 3, none⟩ = some u0 ∧ w3.cell? ⟨w.heap.size, j * 3 + 1, none⟩ = some u1 ∧ w3.cell? ⟨w.heap.size, j * 3 + 2, none⟩ = some u2 ∧ w3.frozen? ⟨w.heap.size, j * 3, none⟩ = false ∧ w3.frozen? ⟨w.heap.size, j * 3 + 1, none⟩ = false ∧ w3.frozen? ⟨w.heap.size, j * 3 + 2, none⟩ = false ∧ (∀ p q r, (((w3.setCell ⟨w.heap.size, j * 3, none⟩ p).setCell ⟨w.heap.size, j * 3 + 1, none⟩ q).setCell ⟨w.heap.size, j * 3 + 2, none⟩ r).cell? ⟨ob, 1, none⟩ = some (.int .i64 least) ∧ (((w3.setCell ⟨w.heap.size, j * 3, none⟩ p).setCell ⟨w.heap.size, j * 3 + 1, none⟩ q).setCell ⟨w.heap.size, j * 3 + 2, none⟩ r).cell? ⟨w1.heap.size, 0, none⟩ = some (.int .i64 xn.1) ∧ (((w3.setCell ⟨w.heap.size, j * 3, none⟩ p).setCell ⟨w.heap.size, j * 3 + 1, none⟩ q).setCell ⟨w.heap.size, j * 3 + 2, none⟩ r).cell? ⟨w1.heap.size, 1, none⟩ = some (.int .i64 xn.2.1) ∧ (((w3.setCell ⟨w.heap.size, j * 3, none⟩ p).setCell ⟨w.heap.size, j * 3 + 1, none⟩ q).setCell ⟨w.heap.size, j * 3 + 2, none⟩ r).cell? ⟨w1.heap.size, 2, none⟩ = some (.int .i64 xn.2.2)) ∧ Hid (w3 = (w1.alloc (.cells #[.int .i64 xn.1, .int .i64 xn.2.1, .int .i64 xn.2.2] 82)).drew))) := by
        have nb := heap_alloc_new w1 (.cells #[.int .i64 xn.1, .int .i64 xn.2.1, .int .i64 xn.2.2] 82)
        have four : (w1.alloc (.cells #[.int .i64 xn.1, .int .i64 xn.2.1, .int .i64 xn.2.2] 82)).drew.cell? ⟨ob, 1, none⟩ = some (.int .i64 least) ∧ (w1.alloc (.cells #[.int .i64 xn.1, .int .i64 xn.2.1, .int .i64 xn.2.2] 82)).drew.cell? ⟨w1.heap.size, 0, none⟩ = some (.int .i64 xn.1) ∧ (w1.alloc (.cells #[.int .i64 xn.1, .int .i64 xn.2.1, .int .i64 xn.2.2] 82)).drew.cell? ⟨w1.heap.size, 1, none⟩ = some (.int .i64 xn.2.1) ∧ (w1.alloc (.cells #[.int .i64 xn.1, .int .i64 xn.2.1, .int .i64 xn.2.2] 82)).drew.cell? ⟨w1.heap.size, 2, none⟩ = some (.int .i64 xn.2.2) := by
          have nb' : (w1.alloc (.cells #[.int .i64 xn.1, .int .i64 xn.2.1, .int .i64 xn.2.2] 82)).drew.heap[w1.heap.size]? = some (.cells #[.int .i64 xn.1, .int .i64 xn.2.1, .int .i64 xn.2.2] 82 (0, 0)) := nb
          exact ⟨k1a _, by rw [cell_at nb']; rfl, by rw [cell_at nb']; rfl, by rw [cell_at nb']; rfl⟩
        refine (HNM.out _ blo).mono ?_
        rintro e w2 ⟨rfl, rfl⟩
        refine ⟨rfl, four, ?_⟩
        refine (HNM.out _ bhi).mono ?_
        rintro e w3 ⟨rfl, rfl⟩
        refine ⟨rfl, four, z0, z1, z2, zf _, zf _, zf _, fun p q r => ?_, rfl⟩
        have far : ∀ (b o : Nat), b ≠ w.heap.size → ((((w1.alloc (.cells #[.int .i64 xn.1, .int .i64 xn.2.1, .int .i64 xn.2.2] 82)).drew.setCell ⟨w.heap.size, j * 3, none⟩ p).setCell ⟨w.heap.size, j * 3 + 1, none⟩ q).setCell ⟨w.heap.size, j * 3 + 2, none⟩ r).cell? ⟨b, o, none⟩ = (w1.alloc (.cells #[.int .i64 xn.1, .int .i64 xn.2.1, .int .i64 xn.2.2] 82)).drew.cell? ⟨b, o, none⟩ := by
          intro b o hb
          refine World.cell?_of_block ?_
          rw [set_other _ hb, set_other _ hb, set_other _ hb]
        rw [far _ _ (by have := hap.2.2.2; omega), far _ _ (by omega), far _ _ (by omega), far _ _ (by omega)]
        exact four
      simp only [i6] at d0 d1 d2
      obtain ⟨len, hlen0⟩ : ∃ len, len = L.length := ⟨_, rfl⟩
      rw [← hlen0] at k0 hiI hlI
      have KA := keep k1a
      clear HV HR HZ HOWN hat hlx v1 v2 hfv keyx hFall hxi hcl f0 f1 f2 hadd hO1 oldA t0 t1 t2 hcs1 hcsz hma hmem hj hjl hlen0 hwx hwc hBw1 hlv hxn ei ec hrg1 hg1 hs1 hx0
      go_wp2_with fail
      clear HNM z0 z1 z2 zf k1a
      go_region_held3 (fun w' => w'.cell? ⟨ob, 1, none⟩ = some (.int .i64 least) ∧ w'.cell? ⟨w1.heap.size, 0, none⟩ = some (.int .i64 xn.1) ∧ w'.cell? ⟨w1.heap.size, 1, none⟩ = some (.int .i64 xn.2.1) ∧ w'.cell? ⟨w1.heap.size, 2, none⟩ = some (.int .i64 xn.2.2)) (first | (go_keep; done) | exact S4 _ _ _ | exact S3 | exact S2) (first | (go_at_call 90; refine HN2.out.mono ?_; rintro e w3 ⟨rfl, S3, z0, z1, z2, zf0, zf1, zf2, S4, HEQ⟩) | (go_at_call 90; refine HNEST.out.mono ?_; rintro e w2 ⟨rfl, S2, HN2⟩))
      go_wp2_with fail
      go_roundw
      case rel =>
        have e := HEQ.out
        subst e
        obtain ⟨left', cnt', cs', r1, r2, r3, r4, _⟩ := HFIN.out
        exact ⟨left', cnt', cs', r1, r2, r3, r4⟩
      case measure =>
        have e := HEQ.out
        subst e
        obtain ⟨left', cnt', cs', r1, r2, r3, r4, r5⟩ := HFIN.out
        rw [r1.left_eq, hrg.left_eq]
        omega
end Go.Proofs.Ytffngpdngjfcfaa
