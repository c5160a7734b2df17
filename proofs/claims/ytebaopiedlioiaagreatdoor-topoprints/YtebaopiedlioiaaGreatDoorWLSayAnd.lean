/-
  The reader of topologies: a device.
  Devices in rows of one's own.
  The reader of topologies: an end of a link.
  The numbers of devices by their names: a map.
  The laws WordsSay and WordsBack: of any texts they answer true.
-/
import Derived.Test.YtebaopiedlioiaaGreatDoorJItoaAnd
import Derived.Test.YtebaopiedlioiaaGreatDoorJPrMayAnd
import Derived.Test.YtebaopiedlioiaaGreatDoorWRefSAnd
import Derived.DeepKeys5
import Derived.Test.YtebaopiedlioiaaGreatDoorJRdAnd
import Derived.Test.YtebaopiedlioiaaGreatDoorJInsAnd
import Derived.Deep.DeepCutAuto
import Derived.Deep.RegionLaw
import Derived.Deep.AppendLies
namespace Go.Proofs.YtebaopiedlioiaaGreatDoor
open Go.RowKit

theorem RSay_any (v : Value) (ls : List (List UInt8)) (w : World) (h : Txs w v ls) (hn : ls.length ≤ 60) (h4 : ∀ l ∈ ls, l.length ≤ 4000) :
    Calls Tryz.prog 38 #[v] w fun e w' => e = .returned (.tuple #[.string (tx (sayS ls)), .int .i64 (sayE ls)]) ∧ Below w.heap.size w w' := by
  obtain ⟨ao, cap, rfl, hr⟩ := h
  rcases hr with rfl | ⟨g, o, rfl, hg, hc⟩
  · exact RSay_none ao cap w
  · exact RSay_some ls g o cap w hg hc (by omega) h4

theorem RSay_anyL (v : Value) (ls : List (List UInt8)) (w : World) (h : Txs w v ls) (hn : ls.length ≤ 200) (h4 : ∀ l ∈ ls, l.length ≤ 4000) :
    Calls Tryz.prog 38 #[v] w fun e w' => e = .returned (.tuple #[.string (tx (sayS ls)), .int .i64 (sayE ls)]) ∧ Below w.heap.size w w' := by
  obtain ⟨ao, cap, rfl, hr⟩ := h
  rcases hr with rfl | ⟨g, o, rfl, hg, hc⟩
  · exact RSay_none ao cap w
  · exact RSay_some ls g o cap w hg hc (by omega) h4
theorem RSay_anyX (v : Value) (ls : List (List UInt8)) (w : World) (h : Txs w v ls) (hn : ls.length ≤ 100000) (h4 : ∀ l ∈ ls, l.length ≤ 4000) :
    Calls Tryz.prog 38 #[v] w fun e w' => e = .returned (.tuple #[.string (tx (sayS ls)), .int .i64 (sayE ls)]) ∧ Below w.heap.size w w' := by
  obtain ⟨ao, cap, rfl, hr⟩ := h
  rcases hr with rfl | ⟨g, o, rfl, hg, hc⟩
  · exact RSay_none ao cap w
  · exact RSay_some ls g o cap w hg hc hn h4

end Go.Proofs.YtebaopiedlioiaaGreatDoor
namespace Go.Proofs.YtebaopiedlioiaaGreatDoor
open Go.RowKit Go.Maps

theorem jKey : Keyed Tryz.prog 9 := string_keyed Tryz.underlying9
theorem jzero_int (w : World) : (zeroValue 3).run Tryz.prog w = .ok (.int .i64 0) w := by kernel_rfl
theorem jkey_str {s : List UInt8} (hs : s.length ≤ 1048576) : ∃ kl, keyOf Tryz.prog 9 (.string (tx s)) = some kl := by
  have hz : (tx s).size ≤ maxLen := by rw [tx_size]; unfold maxLen; omega
  simp [keyOf, mapKey, Tryz.underlying9, hz]
/-- The number of a name: its place, from 1 on. -/
def numO (ns : List (List UInt8)) (s : List UInt8) : Option Int := if s ∈ ns then some ((ns.idxOf s : Int) + 1) else none
/-- The map of names. -/
def NumAt (w : World) (nb : Nat) (ns : List (List UInt8)) : Prop := ∃ f, MapOf Tryz.prog 9 3 w nb ns.length f ∧ ∀ s, f (.string (tx s)) = numO ns s
theorem NumAt.same {w w' : World} {nb : Nat} {ns : List (List UInt8)} (h : NumAt w nb ns) (hb : w'.heap[nb]? = w.heap[nb]?) : NumAt w' nb ns := by
  obtain ⟨f, h1, h2⟩ := h
  exact ⟨f, h1.same hb, h2⟩
theorem NumAt.lt {w : World} {nb : Nat} {ns : List (List UInt8)} (h : NumAt w nb ns) : nb < w.heap.size := by
  obtain ⟨f, h1, h2⟩ := h
  exact h1.lt
theorem NumAt.new (w : World) : NumAt (w.alloc (.map #[] 0)) w.heap.size [] := ⟨fun _ => none, MapOf.new _ _ _ w, fun s => by simp [numO]⟩
theorem NumAt.look {w : World} {nb : Nat} {ns : List (List UInt8)} (h : NumAt w nb ns) {s : List UInt8} (hs : s.length ≤ 1048576) : (Instr.lookup 107 (.map (some nb)) (.string (tx s)) false).run Tryz.prog w = .ok (.int .i64 ((numO ns s).getD 0)) w := by
  obtain ⟨f, h1, h2⟩ := h
  obtain ⟨kl, hkl⟩ := jkey_str hs
  have := h1.look1 jKey Tryz.underlying107 Tryz.underlying3 (jzero_int _) hkl
  rw [h2] at this
  exact this
theorem tx_injJ {a b : List UInt8} (h : Value.string (tx a) = .string (tx b)) : a = b := by
  injection h with h
  have := congrArg (fun b : ByteArray => b.data.toList) h
  simpa using this
theorem numO_snoc {ns : List (List UInt8)} {s : List UInt8} (hs : s ∉ ns) (t : List UInt8) : numO (ns ++ [s]) t = if t = s then some ((ns.length : Int) + 1) else numO ns t := by
  by_cases h : t = s
  · subst h
    rw [if_pos rfl]
    unfold numO
    rw [if_pos (by simp), List.idxOf_append, if_neg hs]
    simp
  · rw [if_neg h]
    unfold numO
    by_cases hm : t ∈ ns
    · rw [if_pos (by simp [hm]), if_pos hm, List.idxOf_append, if_pos hm]
    · rw [if_neg (by simp [hm, h]), if_neg hm]
theorem NumAt.put {w : World} {nb : Nat} {ns : List (List UInt8)} (h : NumAt w nb ns) {s : List UInt8} (hs : s.length ≤ 1048576) (hn : s ∉ ns) (hl : ns.length ≤ 1000) : ∃ w', (Instr.mapUpdate 107 (.map (some nb)) (.string (tx s)) (.int .i64 ((ns.length : Int) + 1))).run Tryz.prog w = .ok () w' ∧ NumAt w' nb (ns ++ [s]) ∧ w.grownBy w' (some nb) := by
  obtain ⟨f, h1, h2⟩ := h
  obtain ⟨kl, hkl⟩ := jkey_str hs
  obtain ⟨w', r1, r2, r3⟩ := h1.put_runU jKey Tryz.underlying107 Tryz.underlying3 (by unfold maxLen; omega) hkl (c := (ns.length : Int) + 1) (WalkArith.wf_i64 (by omega))
  refine ⟨w', r1, ?_, r3⟩
  obtain ⟨f', hf'⟩ := upd_exists f (.string (tx s)) (some ((ns.length : Int) + 1))
  have h3 := r2 f' hf'
  have h4 : f (.string (tx s)) = none := by rw [h2]; unfold numO; rw [if_neg hn]
  rw [h4] at h3
  refine ⟨f', by rw [List.length_append, List.length_singleton]; exact h3, fun t => ?_⟩
  rw [numO_snoc hn]
  by_cases ht : t = s
  · rw [if_pos ht, ht]; exact hf'.1
  · rw [if_neg ht, hf'.2 _ (fun q => ht (tx_injJ q)), h2]
end Go.Proofs.YtebaopiedlioiaaGreatDoor
namespace Go.Proofs.YtebaopiedlioiaaGreatDoor
open Go.RowKit
open Wo (Wd)

/-- All blocks but two stay. -/
structure Gr2 (w w' : World) (a b : Nat) : Prop where
  os : w'.os = w.os
  tape : w'.tape = w.tape
  output : w'.output = w.output
  size : w.heap.size ≤ w'.heap.size
  block : ∀ k, k < w.heap.size → k ≠ a → k ≠ b → w'.heap[k]? = w.heap[k]?
theorem Gr2.ofA {w w' : World} {a b : Nat} (h : w.grownBy w' (some a)) : Gr2 w w' a b := ⟨h.os, h.tape, h.output, h.size, fun k hk h1 _ => h.block k hk (fun q => h1 (by injection q))⟩
theorem Gr2.ofB {w w' : World} {a b : Nat} (h : w.grownBy w' (some b)) : Gr2 w w' a b := ⟨h.os, h.tape, h.output, h.size, fun k hk _ h1 => h.block k hk (fun q => h1 (by injection q))⟩
theorem Gr2.two {w w1 w2 : World} {a b : Nat} (h : Gr2 w w1 a b) (k : Gr2 w1 w2 a b) : Gr2 w w2 a b :=
  ⟨k.os.trans h.os, k.tape.trans h.tape, k.output.trans h.output, Nat.le_trans h.size k.size, fun i hi h1 h2 => (k.block i (Nat.lt_of_lt_of_le hi h.size) h1 h2).trans (h.block i hi h1 h2)⟩
/-- What a call leaves where it gives up, two blocks changed. -/
def JGav2 (w : World) (rb mb : Nat) (f : Ru.Ft) (en : Ending) (w' : World) : Prop := ∃ e : Int, en = .panicked (pan e) ∧ JFt w' rb f ∧ Gr2 w w' rb mb
theorem JGave.two {w w' : World} {rb mb : Nat} {f : Ru.Ft} {en : Ending} (h : JGave w rb f en w') : JGav2 w rb mb f en w' := by
  obtain ⟨e, h1, h2, h3⟩ := h
  exact ⟨e, h1, h2, Gr2.ofA h3⟩
theorem JGav2.after {w w1 w2 : World} {rb mb : Nat} {f : Ru.Ft} {en : Ending} (h : JGav2 w1 rb mb f en w2) (h1 : Gr2 w w1 rb mb) : JGav2 w rb mb f en w2 := by
  obtain ⟨e, rfl, hf, hg⟩ := h
  exact ⟨e, rfl, hf, h1.two hg⟩
/-- An end of a link: its device's place and its port, what is left. -/
def endJ (hp : Nat → List UInt8 → Bool) (ns : List (List UInt8)) (ks : List (Nat × List UInt8)) (e : Wd) (l : List Wd) : Except Ru.Ft (Nat × List UInt8) :=
  let y := Ru.nx e l
  let z := Ru.nx e l.tail
  if Wo.nameB y.1 = false then .error (Ru.ft y 31)
  else if y.1 ∉ ns then .error (Ru.ft y 112)
  else if Wo.nameB z.1 = false then .error (Ru.ft z 31)
  else if (ns.idxOf y.1, z.1) ∈ ks then .error (Ru.ft z 111)
  else if hp (ns.idxOf y.1) z.1 = false then .error (Ru.ft z 112)
  else .ok (ns.idxOf y.1, z.1)
/-- What end leaves. -/
def EndQ (w : World) (rb g mb : Nat) (c0 c1 c2 c3 : Value) (x e : Wd) (ks : List (Nat × List UInt8)) (t : List Wd) (r : Except Ru.Ft (Nat × List UInt8)) (en : Ending) (w' : World) : Prop :=
  (∃ p m, r = .ok (p, m) ∧ en = .returned (.agg #[.int .i64 p, .string (tx m)]) ∧ JRd w' rb g c0 c1 c2 c3 (.map (some mb)) x t e ∧ TakAt w' mb (ks ++ [(p, m)]) ∧ Gr2 w w' rb mb) ∨ (∃ f, r = .error f ∧ JGav2 w rb mb f en w')

set_option maxRecDepth 20000 in
set_option maxHeartbeats 2000000 in
theorem oend_any {w : World} {rb g nb mb : Nat} {c0 c1 c2 : Value} {x : Wd} {l : List Wd} {e : Wd} {ns : List (List UInt8)} {ks : List (Nat × List UInt8)} {hp : Nat → List UInt8 → Bool} (h : JRd w rb g c0 c1 c2 (.map (some nb)) (.map (some mb)) x l e) (hN : NumAt w nb ns) (hT : TakAt w mb ks) (hnr : nb ≠ rb) (hmr : mb ≠ rb) (hgm : g ≠ mb) (hx : (Ru.nx e l).1.length ≤ 1048576) (hz : (Ru.nx e l.tail).1.length ≤ 1048576) (hnl : ns.length ≤ 100000) (hks : ks.length ≤ 1048576)
    (HP : ∀ (W : World) (p : Nat) (m : List UInt8), Gr2 w W rb mb → m.length ≤ 1048576 → Calls Tryz.prog 77 #[c1, .agg #[.int .i64 p, .string (tx m)]] W fun en w' => en = .returned (.bool (hp p m)) ∧ Below W.heap.size W w') :
    Calls Tryz.prog 135 #[.pointer (some ⟨rb, 0, none⟩)] w fun en w' => EndQ w rb g mb c0 c1 c2 (.map (some nb)) x e ks l.tail.tail (endJ hp ns ks e l) en w' := by
  have HH := hid HP
  obtain ⟨Wa, hWa⟩ : ∃ Wa, Wa = w.alloc (.cells #[.int .i64 0, .string ⟨#[]⟩] 95 (0, 0)) := ⟨_, rfl⟩
  have hwa : Below w.heap.size w Wa := by rw [hWa]; exact (Below.refl _ _).alloc (Nat.le_refl _) _
  have hka : Wa.heap[w.heap.size]? = some (.cells #[.int .i64 0, .string ⟨#[]⟩] 95 (0, 0)) := by rw [hWa]; exact new_0 _ _
  have hsa : Wa.heap.size = w.heap.size + 1 := by rw [hWa]; simp
  have HA := hid (oname_on (JOn.start (h.below hwa)) hx)
  have hrl := h.lt
  have hgl := h.gl.1
  have hml := hT.lt
  have hnb := hN.lt
  obtain ⟨y, hy⟩ : ∃ y, y = Ru.nx e l := ⟨_, rfl⟩
  obtain ⟨z, hzz⟩ : ∃ z, z = Ru.nx e l.tail := ⟨_, rfl⟩
  have HM := hid (show endJ hp ns ks e l = if Wo.nameB y.1 = false then .error (Ru.ft y 31) else if y.1 ∉ ns then .error (Ru.ft y 112) else if Wo.nameB z.1 = false then .error (Ru.ft z 31) else if (ns.idxOf y.1, z.1) ∈ ks then .error (Ru.ft z 111) else if hp (ns.idxOf y.1) z.1 = false then .error (Ru.ft z 112) else .ok (ns.idxOf y.1, z.1) by rw [hy, hzz]; rfl)
  obtain ⟨R, hR⟩ : ∃ R, R = endJ hp ns ks e l := ⟨_, rfl⟩
  rw [← hR] at HM ⊢
  rw [← hy] at HA hx
  rw [← hzz] at hz
  have HZ := hid (fun (W0 W : World) (q : JOn W0 W rb g c0 c1 c2 (.map (some nb)) (.map (some mb)) x l.tail e) => (by have := oname_on q (by rw [← hzz]; exact hz); rw [← hzz] at this; exact this : Calls Tryz.prog 132 #[.pointer (some ⟨rb, 0, none⟩)] W fun en w' => (Hid (Wo.nameB z.1 = true) ∧ en = .returned (wv z) ∧ Hid (JOn W0 w' rb g c0 c1 c2 (.map (some nb)) (.map (some mb)) x l.tail.tail e)) ∨ (Hid (Wo.nameB z.1 = false) ∧ JGave W0 rb (Ru.ft z 31) en w')))
  have HNT := hid hN
  have HTT := hid hT
  have HWA := hid (show Gr2 w Wa rb mb from Gr2.ofA (grown_of_below _ hwa))
  have HHWA := hid hwa
  clear HP h hy hzz hR hN hT hwa
  go_enter Tryz.func135, Tryz.ntmps135
  go_wp2_with fail
  rw [← hWa]
  refine HA.out.mono ?_
  rintro en w1 (⟨HB, rfl, H1⟩ | ⟨HB, q, rfl, hf, hg⟩)
  · obtain ⟨o1, cap1, ⟨-, -, -, k3, -⟩, -, -, -, -, -⟩ := H1.out.rd.cells
    have hs1 := H1.out.on.size
    have hb1 := (H1.out.on.block w.heap.size (by omega) (fun q => by injection q with q; omega)).trans hka
    have hN1 : NumAt w1 nb ns := HNT.out.same ((H1.out.on.block nb (by omega) (fun q => by injection q; contradiction)).trans (HHWA.out.block nb hnb))
    have hl1 := (hN1.same (w' := (w1.alloc (wob y)).drew) (heap_old w1 (wob y) hN1.lt)).look hx
    have hrl1 := H1.out.rd.lt
    have a3 := alloc_cell k3 hrl1
    obtain ⟨d, hd⟩ : ∃ d, d = (numO ns y.1).getD 0 := ⟨_, rfl⟩
    rw [← hd] at hl1
    have HD := hid hd
    have HN1 := hid hN1
    clear hd hN1
    have H2 := hid (H1.out.alloc (wob y)).drew
    by_cases hin : y.1 ∈ ns
    · obtain ⟨p, hp0⟩ : ∃ p, p = ns.idxOf y.1 := ⟨_, rfl⟩
      have hdp : d = (p : Int) + 1 := by rw [HD.out, hp0]; unfold numO; rw [if_pos hin]; rfl
      have hpl : p < 100000 := by rw [hp0]; have := List.idxOf_lt_length_of_mem hin; omega
      have HM2 := hid (show R = if Wo.nameB z.1 = false then .error (Ru.ft z 31) else if (p, z.1) ∈ ks then .error (Ru.ft z 111) else if hp p z.1 = false then .error (Ru.ft z 112) else .ok (p, z.1) by rw [HM.out, HB.out, hp0]; simp [hin])
      have hdI : (0 : Int) < (p : Int) + 1 := by omega
      rw [hdp] at hl1
      clear HD hp0 hin HM hdp
      go_wp2_with fail
      go_region
      go_wp2_with fail
      refine (omust_yes _ _ _ _).mono ?_
      rintro en w3 ⟨rfl, hw3⟩
      have hb3 : w3.heap[w.heap.size]? = some (.cells #[.int .i64 0, .string ⟨#[]⟩] 95 (0, 0)) := by
        rw [hw3, heap_old _ _ (by show w.heap.size < (w1.alloc (wob y)).heap.size; simp only [World.size_alloc]; omega)]
        exact (heap_old _ _ (by omega)).trans hb1
      have hy3 : w3.heap[w1.heap.size]? = some (wob y) := by
        rw [hw3, heap_old _ _ (by show w1.heap.size < (w1.alloc (wob y)).heap.size; simp only [World.size_alloc]; omega)]
        exact new_0 _ _
      have hs3 : w3.heap.size = w1.heap.size + 2 := by rw [hw3]; show ((w1.alloc (wob y)).drew.alloc (wob y)).heap.size = _; simp
      have H3 := hid (show JOn Wa w3 rb g c0 c1 c2 (.map (some nb)) (.map (some mb)) x l.tail e by rw [hw3]; exact H2.out.alloc _)
      obtain ⟨kb, hkb⟩ : ∃ kb, kb = w1.heap.size := ⟨_, rfl⟩
      obtain ⟨xb, hxb⟩ : ∃ xb, xb = w.heap.size := ⟨_, rfl⟩
      have HKB := hid hkb
      have HXB := hid hxb
      rw [← hkb] at hy3 hs3 ⊢
      rw [← hxb] at hb3 ⊢
      have hxlt : xb < kb := by omega
      have hkx : ¬ kb = xb := by omega
      have hxk : ¬ xb = kb := by omega
      have hkr : ¬ kb = rb := by omega
      have hxr : ¬ xb = rb := by omega
      have hrk : ¬ rb = kb := by omega
      have hrx : ¬ rb = xb := by omega
      clear hw3 H2 hl1 a3 k3 hb1 hs1 hkb hxb
      go_wp2_with fail
      refine (HZ.out _ _ (JOn.start H3.out.rd)).mono ?_
      rintro en w4 (⟨HC, rfl, H4⟩ | ⟨HC, q, rfl, hf, hg⟩)
      · have hs4 := H4.out.on.size
        have hb4 := (H4.out.on.block xb (by omega) (fun q => by injection q; contradiction)).trans hb3
        have hy4 := (H4.out.on.block kb (by omega) (fun q => by injection q; contradiction)).trans hy3
        have x0 := cell_at (o := 0) hy4
        have x1 := cell_at (o := 1) hy4
        have x2 := cell_at (o := 2) hy4
        have z0 := cell_at (o := 0) hb4
        have z1 := cell_at (o := 1) hb4
        have y0 : w4.frozen? ⟨kb, 0, none⟩ = false := free_of hy4
        have y1 : w4.frozen? ⟨kb, 1, none⟩ = false := free_of hy4
        have y2 : w4.frozen? ⟨kb, 2, none⟩ = false := free_of hy4
        have v0 : w4.frozen? ⟨xb, 0, none⟩ = false := free_of hb4
        have v1 : w4.frozen? ⟨xb, 1, none⟩ = false := free_of hb4
        simp only [List.getElem?_toArray, List.getElem?_cons_succ, List.getElem?_cons_zero] at x0 x1 x2 z0 z1
        obtain ⟨o4, cap4, ⟨-, k1, -, -, k4⟩, -, -, -, -, -⟩ := H4.out.rd.cells
        have hpI : (p : Int) + 1 - 1 = p := by omega
        obtain ⟨W5, hW5⟩ : ∃ W5, W5 = (((w4.setCell ⟨kb, 0, none⟩ (.string (tx z.1))).setCell ⟨kb, 1, none⟩ (.int .i64 z.2.1)).setCell ⟨kb, 2, none⟩ (.int .i64 z.2.2)).alloc (eob p z.1) := ⟨_, rfl⟩
        have hq4 : (((w4.setCell ⟨kb, 0, none⟩ (.string (tx z.1))).setCell ⟨kb, 1, none⟩ (.int .i64 z.2.1)).setCell ⟨kb, 2, none⟩ (.int .i64 z.2.2)).heap.size = w4.heap.size := by simp only [World.size_setCell]
        have hs5 : W5.heap.size = w4.heap.size + 1 := by rw [hW5]; simp only [World.size_alloc, World.size_setCell]
        have hf5 : ∀ k, k < w4.heap.size → k ≠ kb → W5.heap[k]? = w4.heap[k]? := fun k hk hne => by
          rw [hW5, heap_old _ _ (by rw [hq4]; exact hk), Below.heap_setCell _ _ _ _ hne, Below.heap_setCell _ _ _ _ hne, Below.heap_setCell _ _ _ _ hne]
        have hz5 : W5.heap[kb]? = some (wob z) := by
          rw [hW5, heap_old _ _ (by rw [hq4]; omega), block_set (o := 2) _ (block_set (o := 1) _ (block_set (o := 0) _ hy4))]
          rfl
        have he5 : W5.heap[w4.heap.size]? = some (eob p z.1) := by
          rw [hW5]
          have := new_0 (((w4.setCell ⟨kb, 0, none⟩ (.string (tx z.1))).setCell ⟨kb, 1, none⟩ (.int .i64 z.2.1)).setCell ⟨kb, 2, none⟩ (.int .i64 z.2.2)) (eob p z.1)
          rw [hq4] at this
          exact this
        have h45 : w4.grownBy W5 (some kb) := by
          rw [hW5]
          exact grown_two (grown_two (grown_two (grown_set _ _ _ _) (grown_set _ _ _ _)) (grown_set _ _ _ _)) (grown_alloc _ _ _)
        have hnk : ∀ k, k < xb → k ≠ kb := fun k hk => by omega
        have J5 := hid (H4.out.rd.grown (w' := W5) (fun k hk => hf5 k (by rcases hk with rfl | rfl; exact H4.out.rd.lt; exact H4.out.rd.gl.1) (by rcases hk with rfl | rfl; exact hrk; exact hnk _ (by have := HXB.out; omega))) (by omega))
        have hws3 := H3.out.on.size
        have hxw := HXB.out
        have hmb5 : W5.heap[mb]? = w.heap[mb]? := (hf5 mb (by omega) (hnk _ (by omega))).trans ((H4.out.on.block mb (by omega) (fun q => by injection q; contradiction)).trans ((H3.out.on.block mb (by omega) (fun q => by injection q; contradiction)).trans (HHWA.out.block mb hml)))
        have G4 : Gr2 w w4 rb mb := (HWA.out.two (Gr2.ofA H3.out.on)).two (Gr2.ofA H4.out.on)
        have G5 := hid (show Gr2 w W5 rb mb from ⟨h45.os.trans G4.os, h45.tape.trans G4.tape, h45.output.trans G4.output, Nat.le_trans G4.size h45.size, fun k hk q1 q2 => (hf5 k (Nat.lt_of_lt_of_le hk G4.size) (hnk _ (by omega))).trans (G4.block k hk q1 q2)⟩)
        have hb5 := (hf5 xb (by omega) hxk).trans hb4
        have T5 := hid (HTT.out.same hmb5)
        have kr5 : W5.heap[rb]? = w4.heap[rb]? := hf5 rb (by omega) hrk
        have d1 : W5.cell? ⟨rb, 1, none⟩ = some c1 := (World.cell?_of_block kr5).trans k1
        have d4 : W5.cell? ⟨rb, 4, none⟩ = some (.map (some mb)) := (World.cell?_of_block kr5).trans k4
        obtain ⟨qb, hqb⟩ : ∃ qb, qb = w4.heap.size := ⟨_, rfl⟩
        have hkq : kb < qb := by omega
        have hmq : mb < qb := by omega
        have hrq : rb < qb := by omega
        have hgq : g < qb := by omega
        have hmk : mb ≠ kb := by omega
        have hmg : mb ≠ g := fun q => hgm q.symm
        rw [← hqb] at he5 hs5
        have e0 : W5.cell? ⟨qb, 0, none⟩ = some (.int .i64 p) := by rw [cell_at he5]; rfl
        have e1 : W5.cell? ⟨qb, 1, none⟩ = some (.string (tx z.1)) := by rw [cell_at he5]; rfl
        have f0 : W5.cell? ⟨kb, 0, none⟩ = some (.string (tx z.1)) := by rw [cell_at hz5]; rfl
        have f1 : W5.cell? ⟨kb, 1, none⟩ = some (.int .i64 z.2.1) := by rw [cell_at hz5]; rfl
        have f2 : W5.cell? ⟨kb, 2, none⟩ = some (.int .i64 z.2.2) := by rw [cell_at hz5]; rfl
        obtain ⟨b, hb⟩ : ∃ b, b = decide ((p, z.1) ∉ ks) := ⟨_, rfl⟩
        have HTK := hid (fun (W : World) (hW : W = W5 ∨ W = W5.drew) => (by
          have hWh : ∀ k : Nat, W.heap[k]? = W5.heap[k]? := fun k => by rcases hW with rfl | rfl <;> rfl
          have hWs : W.heap.size = W5.heap.size := by rcases hW with rfl | rfl <;> rfl
          have hWg : Gr2 W5 W rb mb := by rcases hW with rfl | rfl <;> exact ⟨rfl, rfl, rfl, Nat.le_refl _, fun _ _ _ _ => rfl⟩
          refine (otake (T5.out.same (hWh mb)) p z.1 (by omega) hz hks).mono ?_
          rintro en w' ⟨h1, h2, h3⟩
          have hbl : ∀ k : Nat, k < qb + 1 → k ≠ mb → w'.heap[k]? = W5.heap[k]? := fun k hk hne => (h3.block k (by omega) (fun q => hne (by injection q))).trans (hWh k)
          have hc : ∀ (k o : Nat), k < qb + 1 → k ≠ mb → w'.cell? ⟨k, o, none⟩ = W5.cell? ⟨k, o, none⟩ := fun k o hk hne => World.cell?_of_block (hbl k hk hne)
          refine ⟨by rw [h1, hb], ⟨fun q => h2 (of_decide_eq_true (hb.symm.trans q)), J5.out.grown (fun k hk => hbl k (by rcases hk with rfl | rfl <;> omega) (by rcases hk with rfl | rfl; exact hmr.symm; exact hgm)) (by have := h3.size; omega), (G5.out.two hWg).two (Gr2.ofB h3)⟩, ⟨(hc kb 0 (by omega) hmk.symm).trans f0, (hc kb 1 (by omega) hmk.symm).trans f1, (hc kb 2 (by omega) hmk.symm).trans f2, (hc rb 4 (by omega) hmr.symm).trans d4, (hc qb 0 (by omega) (by omega)).trans e0, (hc qb 1 (by omega) (by omega)).trans e1⟩, (hc rb 1 (by omega) hmr.symm).trans d1, by have := h3.size; omega, (hbl qb (by omega) (by omega)).trans he5, (hbl kb (by omega) hmk.symm).trans hz5, (hbl xb (by omega) (by omega)).trans hb5⟩ : Calls Tryz.prog 79 #[.map (some mb), .agg #[.int .i64 p, .string (tx z.1)]] W fun en w' => en = .returned (.bool b) ∧ Hid ((b = true → TakAt w' mb (ks ++ [(p, z.1)])) ∧ JRd w' rb g c0 c1 c2 (.map (some nb)) (.map (some mb)) x l.tail.tail e ∧ Gr2 w w' rb mb) ∧ (w'.cell? ⟨kb, 0, none⟩ = some (.string (tx z.1)) ∧ w'.cell? ⟨kb, 1, none⟩ = some (.int .i64 z.2.1) ∧ w'.cell? ⟨kb, 2, none⟩ = some (.int .i64 z.2.2) ∧ w'.cell? ⟨rb, 4, none⟩ = some (.map (some mb)) ∧ w'.cell? ⟨qb, 0, none⟩ = some (.int .i64 p) ∧ w'.cell? ⟨qb, 1, none⟩ = some (.string (tx z.1))) ∧ w'.cell? ⟨rb, 1, none⟩ = some c1 ∧ qb < w'.heap.size ∧ w'.heap[qb]? = some (eob p z.1) ∧ w'.heap[kb]? = some (wob z) ∧ w'.heap[xb]? = some (.cells #[.int .i64 0, .string ⟨#[]⟩] 95 (0, 0))))
        clear hxw hws3
        go_wp2_with fail
        rw [← hW5, ← hqb]
        clear hqb hW5 h45 kr5 G4 hf5 hnk hmb5 hq4
        have HBM := hid hb
        clear hb
        have HMU := hid (fun (W : World) (hW : JRd W rb g c0 c1 c2 (.map (some nb)) (.map (some mb)) x l.tail.tail e) (c : Bool) (n : Nat) => ((omust_two hW c z n).mono fun _ _ h => h.elim (fun h => Or.inl ⟨hid h.1, h.2⟩) (fun h => Or.inr ⟨hid h.1, h.2⟩) : Calls Tryz.prog 56 #[.pointer (some ⟨rb, 0, none⟩), .bool c, wv z, .int .i64 n] W fun en w' => (Hid (c = true) ∧ en = .returned (.tuple #[]) ∧ w' = W.alloc (wob z)) ∨ (Hid (c = false) ∧ JGave W rb (Ru.ft z n) en w')))
        have HE1 := hid (fun (hb : b = false) => (show R = .error (Ru.ft z 111) by rw [HM2.out, if_neg (by rw [HC.out]; simp), if_pos (by have := HBM.out; rw [hb] at this; simpa using this.symm)]))
        have HKA := hid (fun (V : World) (ob : Obj) (hq : qb < V.heap.size) (hS : V.cell? ⟨kb, 0, none⟩ = some (.string (tx z.1)) ∧ V.cell? ⟨kb, 1, none⟩ = some (.int .i64 z.2.1) ∧ V.cell? ⟨kb, 2, none⟩ = some (.int .i64 z.2.2) ∧ V.cell? ⟨rb, 4, none⟩ = some (.map (some mb)) ∧ V.cell? ⟨qb, 0, none⟩ = some (.int .i64 p) ∧ V.cell? ⟨qb, 1, none⟩ = some (.string (tx z.1))) => (show (V.alloc ob).cell? ⟨kb, 0, none⟩ = some (.string (tx z.1)) ∧ (V.alloc ob).cell? ⟨kb, 1, none⟩ = some (.int .i64 z.2.1) ∧ (V.alloc ob).cell? ⟨kb, 2, none⟩ = some (.int .i64 z.2.2) ∧ (V.alloc ob).cell? ⟨rb, 4, none⟩ = some (.map (some mb)) ∧ (V.alloc ob).cell? ⟨qb, 0, none⟩ = some (.int .i64 p) ∧ (V.alloc ob).cell? ⟨qb, 1, none⟩ = some (.string (tx z.1)) from ⟨alloc_cell hS.1 (by omega) ob, alloc_cell hS.2.1 (by omega) ob, alloc_cell hS.2.2.1 (by omega) ob, alloc_cell hS.2.2.2.1 (by omega) ob, alloc_cell hS.2.2.2.2.1 hq ob, alloc_cell hS.2.2.2.2.2 hq ob⟩))
        go_region_held2 (fun w' => w'.cell? ⟨kb, 0, none⟩ = some (.string (tx z.1)) ∧ w'.cell? ⟨kb, 1, none⟩ = some (.int .i64 z.2.1) ∧ w'.cell? ⟨kb, 2, none⟩ = some (.int .i64 z.2.2) ∧ w'.cell? ⟨rb, 4, none⟩ = some (.map (some mb)) ∧ w'.cell? ⟨qb, 0, none⟩ = some (.int .i64 p) ∧ w'.cell? ⟨qb, 1, none⟩ = some (.string (tx z.1))) (first | exact ⟨f0, f1, f2, d4, e0, e1⟩ | exact hS5 | exact HKA.out _ _ hq6 hS5) (first | (go_at_call 79; refine (HTK.out _ (by first | exact Or.inl rfl | exact Or.inr rfl)).mono ?_; rintro en w6 ⟨rfl, H6, hS5, hr6, hq6, hE6, hZ6, hX6⟩) | (go_at_call 56; refine (HMU.out _ H6.out.2.1 b 111).mono ?_; rintro en w7 (⟨HBT, rfl, rfl⟩ | ⟨HBT, q, rfl, hf, hg⟩); rotate_left; (exact ⟨rfl, Or.inr ⟨_, HE1.out HBT.out, q, rfl, hf, H6.out.2.2.two (Gr2.ofA hg)⟩⟩)))
        obtain ⟨w7, hw7⟩ : ∃ w7, w7 = w6.alloc (wob z) := ⟨_, rfl⟩
        have J7 := hid (show JRd w7 rb g c0 c1 c2 (.map (some nb)) (.map (some mb)) x l.tail.tail e by rw [hw7]; exact H6.out.2.1.alloc _)
        have T7 := hid (show TakAt w7 mb (ks ++ [(p, z.1)]) by rw [hw7]; have := H6.out.1 HBT.out; exact this.same (heap_old _ _ this.lt))
        have G7 := hid (show Gr2 w w7 rb mb by rw [hw7]; exact H6.out.2.2.two (Gr2.ofA (grown_alloc _ _ _)))
        have hs7 : w7.heap.size = w6.heap.size + 1 := by rw [hw7]; simp
        have hX7 : w7.heap[xb]? = some (.cells #[.int .i64 0, .string ⟨#[]⟩] 95 (0, 0)) := by rw [hw7, heap_old _ _ (by omega)]; exact hX6
        have hS7 : w7.cell? ⟨kb, 0, none⟩ = some (.string (tx z.1)) ∧ w7.cell? ⟨kb, 1, none⟩ = some (.int .i64 z.2.1) ∧ w7.cell? ⟨kb, 2, none⟩ = some (.int .i64 z.2.2) ∧ w7.cell? ⟨rb, 1, none⟩ = some c1 ∧ w7.cell? ⟨qb, 0, none⟩ = some (.int .i64 p) ∧ w7.cell? ⟨qb, 1, none⟩ = some (.string (tx z.1)) := by
          rw [hw7]
          exact ⟨alloc_cell hS5.1 (by omega) _, alloc_cell hS5.2.1 (by omega) _, alloc_cell hS5.2.2.1 (by omega) _, alloc_cell hr6 (by omega) _, alloc_cell hS5.2.2.2.2.1 hq6 _, alloc_cell hS5.2.2.2.2.2 hq6 _⟩
        have hq7 : qb < w7.heap.size := by omega
        have HNB := hid (show (p, z.1) ∉ ks by have := HBM.out; rw [HBT.out] at this; exact of_decide_eq_true this.symm)
        have HKC := hid (fun (V : World) (hV : Below w7.heap.size w7 V) => (show V.cell? ⟨kb, 0, none⟩ = some (.string (tx z.1)) ∧ V.cell? ⟨kb, 1, none⟩ = some (.int .i64 z.2.1) ∧ V.cell? ⟨kb, 2, none⟩ = some (.int .i64 z.2.2) ∧ V.cell? ⟨rb, 1, none⟩ = some c1 ∧ V.cell? ⟨qb, 0, none⟩ = some (.int .i64 p) ∧ V.cell? ⟨qb, 1, none⟩ = some (.string (tx z.1)) from ⟨(hV.cell (by show kb < _; omega)).trans hS7.1, (hV.cell (by show kb < _; omega)).trans hS7.2.1, (hV.cell (by show kb < _; omega)).trans hS7.2.2.1, (hV.cell (by show rb < _; omega)).trans hS7.2.2.2.1, (hV.cell (by exact hq7)).trans hS7.2.2.2.2.1, (hV.cell (by exact hq7)).trans hS7.2.2.2.2.2⟩))
        rw [← hw7]
        obtain ⟨bh, hbh⟩ : ∃ bh, bh = hp p z.1 := ⟨_, rfl⟩
        have HBH := hid hbh
        have HHP := hid (fun (W : World) (hW : Below w7.heap.size w7 W) => (by
          rw [hbh]
          refine (HH.out W p z.1 (G7.out.two (Gr2.ofA (grown_of_below _ hW))) hz).mono ?_
          rintro en w' ⟨h1, h2⟩
          exact ⟨h1, hid (below_two hW h2)⟩ : Calls Tryz.prog 77 #[c1, .agg #[.int .i64 p, .string (tx z.1)]] W fun en w' => en = .returned (.bool bh) ∧ Hid (Below w7.heap.size w7 w')))
        have HE2 := hid (fun (hb : bh = false) => (show R = .error (Ru.ft z 112) by rw [HM2.out, if_neg (by rw [HC.out]; simp), if_neg HNB.out, if_pos (by rw [← HBH.out]; exact hb)]))
        have BR := hid (Below.refl w7.heap.size w7)
        clear hw7 hbh hS5 hr6 hq6 hE6 hZ6 hX6 hs7 H6 HKA HTK f0 f1 f2 d1 d4 e0 e1 he5 hz5 hs5 x0 x1 x2 y0 y1 y2 z0 z1 v0 v1 hy4 hb4 hb5 J5 T5 G5 hb3 hy3
        go_wp2_with fail
        go_region_held2 (fun w' => w'.cell? ⟨kb, 0, none⟩ = some (.string (tx z.1)) ∧ w'.cell? ⟨kb, 1, none⟩ = some (.int .i64 z.2.1) ∧ w'.cell? ⟨kb, 2, none⟩ = some (.int .i64 z.2.2) ∧ w'.cell? ⟨rb, 1, none⟩ = some c1 ∧ w'.cell? ⟨qb, 0, none⟩ = some (.int .i64 p) ∧ w'.cell? ⟨qb, 1, none⟩ = some (.string (tx z.1))) (first | exact hS7 | exact HKC.out _ H8.out | exact HKC.out _ (H8.out.alloc H8.out.size _)) (first | (go_at_call 77; refine (HHP.out _ (by first | exact BR.out | exact BR.out.drew)).mono ?_; rintro en w8 ⟨rfl, H8⟩) | (go_at_call 56; refine (HMU.out _ (J7.out.below H8.out) bh 112).mono ?_; rintro en w9 (⟨HBU, rfl, rfl⟩ | ⟨HBU, q, rfl, hf, hg⟩); rotate_left; (exact ⟨rfl, Or.inr ⟨_, HE2.out HBU.out, q, rfl, hf, (G7.out.two (Gr2.ofA (grown_of_below _ H8.out))).two (Gr2.ofA hg)⟩⟩)))
        have B9 := hid (show Below w7.heap.size w7 (w8.alloc (wob z)) from H8.out.alloc H8.out.size _)
        have hs9 := B9.out.size
        have hX9 := (B9.out.block xb (by omega)).trans hX7
        have hS9 := HKC.out _ B9.out
        have n0 := cell_at (o := 0) hX9
        have n1 := cell_at (o := 1) hX9
        have m0 : (w8.alloc (wob z)).frozen? ⟨xb, 0, none⟩ = false := free_of hX9
        have m1 : (w8.alloc (wob z)).frozen? ⟨xb, 1, none⟩ = false := free_of hX9
        simp only [List.getElem?_toArray, List.getElem?_cons_succ, List.getElem?_cons_zero] at n0 n1
        obtain ⟨-, -, -, -, q0, q1⟩ := hS9
        have hxs : xb < (w8.alloc (wob z)).heap.size := by omega
        have HFI := hid (show EndQ w rb g mb c0 c1 c2 (.map (some nb)) x e ks l.tail.tail R (.returned (.agg #[.int .i64 p, .string (tx z.1)])) (((w8.alloc (wob z)).setCell ⟨xb, 0, none⟩ (.int .i64 p)).setCell ⟨xb, 1, none⟩ (.string (tx z.1))) by
          have hxw := HXB.out
          have hf : ∀ k : Nat, k ≠ xb → (((w8.alloc (wob z)).setCell ⟨xb, 0, none⟩ (.int .i64 p)).setCell ⟨xb, 1, none⟩ (.string (tx z.1))).heap[k]? = (w8.alloc (wob z)).heap[k]? := fun k hk => by rw [Below.heap_setCell _ _ _ _ hk, Below.heap_setCell _ _ _ _ hk]
          have hs : (((w8.alloc (wob z)).setCell ⟨xb, 0, none⟩ (.int .i64 p)).setCell ⟨xb, 1, none⟩ (.string (tx z.1))).heap.size = (w8.alloc (wob z)).heap.size := by simp only [World.size_setCell]
          have G9 : Gr2 w (w8.alloc (wob z)) rb mb := G7.out.two (Gr2.ofA (grown_of_below _ B9.out))
          have J9 := J7.out.below B9.out
          have T9 := T7.out.same (B9.out.block mb T7.out.lt)
          refine Or.inl ⟨p, z.1, ?_, rfl, J9.grown (fun k hk => hf k (by rcases hk with rfl | rfl <;> omega)) (Nat.le_of_eq hs.symm), T9.same (hf mb (by omega)), G9.os, G9.tape, G9.output, by rw [hs]; exact G9.size, fun k hk a1 a2 => (hf k (by omega)).trans (G9.block k hk a1 a2)⟩
          rw [HM2.out, if_neg (by rw [HC.out]; simp), if_neg HNB.out, if_neg (by rw [← HBH.out, HBU.out]; simp)])
        clear hs9 hX9 hS7 hX7 B9
        go_wp2
        refine bodyPost_ret (v := .agg #[.int .i64 p, .string (tx z.1)]) (by simp [results, Tryz.results135, go_sem, n0, n1]) rfl ?_
        exact HFI.out
      · exact ⟨rfl, Or.inr ⟨_, by rw [HM2.out, if_pos HC.out], (JGave.two ⟨q, rfl, hf, grown_two H3.out.on hg⟩ : JGav2 Wa rb mb _ _ _).after HWA.out⟩⟩
    · have HER := hid (show R = .error (Ru.ft y 112) by rw [HM.out, HB.out, if_neg (by simp), if_pos hin])
      have hd0 : d = 0 := by rw [HD.out]; unfold numO; rw [if_neg hin]; rfl
      subst hd0
      clear HD hin HM
      go_wp2_with fail
      go_region
      go_wp2_with fail
      refine (omust_no H2.out.rd y 112).mono ?_
      rintro en w3 ⟨q, rfl, hf, hg⟩
      exact ⟨rfl, Or.inr ⟨_, HER.out, (JGave.two ⟨q, rfl, hf, grown_two H2.out.on hg⟩ : JGav2 Wa rb mb _ _ _).after HWA.out⟩⟩
  · exact ⟨rfl, Or.inr ⟨_, by rw [HM.out, if_pos HB.out], (JGave.two ⟨q, rfl, hf, hg⟩ : JGav2 Wa rb mb _ _ _).after HWA.out⟩⟩
end Go.Proofs.YtebaopiedlioiaaGreatDoor
namespace Go.Proofs.YtebaopiedlioiaaGreatDoor
open Go.RowKit

/-- The cells of devices. -/
def flatD (ds : List (To.Dv × Value × Value)) : List Value := ds.flatMap fun q => [.string (tx q.1.name), q.2.1, q.2.2]
theorem flatD_at {ds : List (To.Dv × Value × Value)} : ∀ {i : Nat} {q : To.Dv × Value × Value}, ds[i]? = some q → (flatD ds)[i * 3]? = some (.string (tx q.1.name)) ∧ (flatD ds)[i * 3 + 1]? = some q.2.1 ∧ (flatD ds)[i * 3 + 2]? = some q.2.2 := by
  induction ds with
  | nil => intro i q h; simp at h
  | cons a t ih =>
    intro i q h
    have e : flatD (a :: t) = .string (tx a.1.name) :: a.2.1 :: a.2.2 :: flatD t := rfl
    rw [e]
    cases i with
    | zero => simp only [List.getElem?_cons_zero, Option.some.injEq] at h; subst h; exact ⟨rfl, rfl, rfl⟩
    | succ i =>
      have := ih (i := i) (q := q) (by simpa using h)
      rw [show (i + 1) * 3 = i * 3 + 1 + 1 + 1 by omega]
      exact this
/-- Devices in rows from B on. -/
structure DvO (B : Nat) (w : World) (v : Value) (ds : List (To.Dv × Value × Value)) : Prop where
  row : w.ownsRow B 80 3 v ds.length (flatD ds)
  cls : ∀ q ∈ ds, w.ownsRow B 9 1 q.2.1 q.1.cls.length (svs q.1.cls)
  prt : ∀ q ∈ ds, w.ownsRow B 9 1 q.2.2 q.1.prt.length (svs q.1.prt)
theorem DvO.keep {B : Nat} {w w' : World} {v : Value} {ds : List (To.Dv × Value × Value)} (h : DvO B w v ds) (hk : ∀ k, B ≤ k → k < w.heap.size → w'.heap[k]? = w.heap[k]?) : DvO B w' v ds :=
  ⟨own_sameJ h.row fun k q => hk k (h.row.lt k q).1 (h.row.lt k q).2, fun q hq => own_sameJ (h.cls q hq) fun k r => hk k ((h.cls q hq).lt k r).1 ((h.cls q hq).lt k r).2, fun q hq => own_sameJ (h.prt q hq) fun k r => hk k ((h.prt q hq).lt k r).1 ((h.prt q hq).lt k r).2⟩
theorem DvO.gr2 {B rb mb : Nat} {w w' : World} {v : Value} {ds : List (To.Dv × Value × Value)} (h : DvO B w v ds) (hg : Gr2 w w' rb mb) (hr : rb < B) (hm : mb < B) : DvO B w' v ds :=
  h.keep fun k h1 h2 => hg.block k h2 (by omega) (by omega)
theorem own_lenJ {w : World} {B : Nat} {e : TypeId} {v : Value} {n : Nat} {xs : List Value} (h : w.ownsRow B e 1 v n xs) : n ≤ maxLen := by
  obtain ⟨-, ⟨-, rfl⟩ | ⟨g, cap, cur, -, -, -, h1, h2, -⟩⟩ := h
  · exact Nat.zero_le _
  · omega
theorem DvO.lies {B : Nat} {w : World} {v : Value} {ds : List (To.Dv × Value × Value)} (h : DvO B w v ds) : DvL w v ds := by
  refine ⟨?_, fun q hq => ⟨own_txs (h.cls q hq), own_lenJ (h.cls q hq)⟩, fun q hq => ⟨own_txs (h.prt q hq), own_lenJ (h.prt q hq)⟩⟩
  obtain ⟨-, ⟨hv, h0⟩ | ⟨g, cap, cur, hv, -, hb, h1, h2, h3, h4⟩⟩ := h.row
  · exact ⟨none, 0, by rw [hv, h0], Or.inl (List.eq_nil_of_length_eq_zero h0)⟩
  · refine ⟨some ⟨g, 0, none⟩, cap, hv, Or.inr ⟨g, 0, rfl, lt_of_block hb, fun i q hq => ?_⟩⟩
    have hi := (List.getElem?_eq_some_iff.1 hq).1
    obtain ⟨r1, r2, r3⟩ := flatD_at hq
    rw [← h4] at r1 r2 r3
    have hc : ∀ (k : Nat) (u : Value), (cur.toList.take (ds.length * 3))[k]? = some u → w.cell? ⟨g, k, none⟩ = some u := fun k u hu => by
      rw [cell_at hb, ← Array.getElem?_toList]
      have hlt := (List.getElem?_eq_some_iff.1 hu).1
      rw [List.length_take] at hlt
      rw [List.getElem?_take_of_lt (by omega)] at hu
      exact hu
    simp only [Nat.zero_add]
    exact ⟨hc _ _ r1, hc _ _ r2, hc _ _ r3⟩
/-- hasPort of devices in rows from B on, over all changes of two blocks below B. -/
theorem ohasPort_gr2 {B rb mb : Nat} {w : World} {v : Value} {ds : List (To.Dv × Value × Value)} (h : DvO B w v ds) (hr : rb < B) (hm : mb < B) (W : World) (p : Nat) (m : List UInt8) (hg : Gr2 w W rb mb) :
    Calls Tryz.prog 77 #[v, .agg #[.int .i64 p, .string (tx m)]] W fun en w' => en = .returned (.bool (hasP (ds.map (·.1)) p m)) ∧ Below W.heap.size W w' := ohasPort_any (h.gr2 hg hr hm).lies
end Go.Proofs.YtebaopiedlioiaaGreatDoor
namespace Go.Proofs.YtebaopiedlioiaaGreatDoor
open Go.RowKit Go
open Wo (Wd)

/-- What if r.passed(kw) { d.f = r.list(most) } leaves. -/
def OptQ (w : World) (rb g : Nat) (c0 c1 c2 c3 c4 : Value) (x e : Wd) (r : Except Ru.Ft (List (List UInt8) × List Wd)) (v : Value) (w' : World) : Prop :=
  ∃ ns t, r = .ok (ns, t) ∧ w'.ownsRow w.heap.size 9 1 v ns.length (svs ns) ∧ JOn w w' rb g c0 c1 c2 c3 c4 x t e
theorem numO_zero (ns : List (List UInt8)) (s : List UInt8) : (((numO ns s).getD 0 == 0) = true ↔ s ∉ ns) ∧ (((numO ns s).getD 0 == 0) = false ↔ s ∈ ns) := by
  unfold numO
  by_cases h : s ∈ ns
  · rw [if_pos h]
    have : ¬ ((ns.idxOf s : Int) + 1 = 0) := by omega
    simp [h, this]
  · rw [if_neg h]
    simp [h]

/-- A device in a block of its own. -/
abbrev dob (nm : List UInt8) (vc vp : Value) : Obj := .cells #[.string (tx nm), vc, vp] 80
/-- A reader, and a device that is being read: in block kb, vc its classes, vp its ports. -/
structure DvI (w : World) (rb g kb : Nat) (c0 c1 c2 c3 c4 : Value) (x e : Wd) (nm : List UInt8) (vc vp : Value) (cs ps : List (List UInt8)) (t : List Wd) (w' : World) : Prop where
  rd : JOn w w' rb g c0 c1 c2 c3 c4 x t e
  box : w'.heap[kb]? = some (dob nm vc vp)
  base : w.heap.size ≤ kb
  cls : w'.ownsRow w.heap.size 9 1 vc cs.length (svs cs)
  prt : w'.ownsRow w.heap.size 9 1 vp ps.length (svs ps)
  short : ShortJ e t
theorem svs_typeJ {w : World} {B kb : Nat} {v vc vp : Value} {nm : List UInt8} {n : Nat} {xs : List Value} (h : w.ownsRow B 9 1 v n xs) (hb : w.heap[kb]? = some (dob nm vc vp)) : v.ownBlock ≠ some kb := fun e => by
  rcases h.2 with ⟨e1, _⟩ | ⟨g', cap, cur, e1, _, hh, _⟩
  · rw [e1] at e; cases e
  · rw [e1] at e
    simp [Value.ownBlock] at e
    subst e
    rw [hb] at hh
    injection hh with hh
    injection hh with _ h2
    exact absurd h2 (by decide)
/-- A call that lets all but the reader as it was. -/
theorem DvI.on {w w1 w2 : World} {rb g kb : Nat} {c0 c1 c2 c3 c4 : Value} {x e : Wd} {nm : List UInt8} {vc vp : Value} {cs ps : List (List UInt8)} {t t' : List Wd} (h : DvI w rb g kb c0 c1 c2 c3 c4 x e nm vc vp cs ps t w1) (h2 : JOn w1 w2 rb g c0 c1 c2 c3 c4 x t' e) (hrb : rb < w.heap.size) (hs : ShortJ e t') : DvI w rb g kb c0 c1 c2 c3 c4 x e nm vc vp cs ps t' w2 := by
  have hk : ∀ k, k < w1.heap.size → w.heap.size ≤ k → w2.heap[k]? = w1.heap[k]? := fun k hk hl => h2.on.block k hk (fun q => by injection q with q; omega)
  have hkb := lt_of_block h.box
  exact ⟨⟨h2.rd, grown_two h.rd.on h2.on⟩, (hk kb hkb h.base).trans h.box, h.base, own_sameJ h.cls fun k q => hk k (h.cls.lt k q).2 (h.cls.lt k q).1, own_sameJ h.prt fun k q => hk k (h.prt.lt k q).2 (h.prt.lt k q).1, hs⟩
/-- A list was stored into the device. -/
theorem DvI.setC {w w1 : World} {rb g kb : Nat} {c0 c1 c2 c3 c4 : Value} {x e : Wd} {nm : List UInt8} {vc vp v : Value} {cs ps ls : List (List UInt8)} {t : List Wd} (h : DvI w rb g kb c0 c1 c2 c3 c4 x e nm vc vp cs ps t w1) (hv : w1.ownsRow w.heap.size 9 1 v ls.length (svs ls)) (hrb : rb < w.heap.size) (hg : g < w.heap.size) : DvI w rb g kb c0 c1 c2 c3 c4 x e nm v vp ls ps t (w1.setCell ⟨kb, 1, none⟩ v) := by
  have hB : Below w.heap.size w1 (w1.setCell ⟨kb, 1, none⟩ v) := (Below.refl _ _).setCell h.base _
  have hk : ∀ k, k ≠ kb → (w1.setCell ⟨kb, 1, none⟩ v).heap[k]? = w1.heap[k]? := fun k q => Below.heap_setCell _ _ _ _ (by exact q)
  refine ⟨h.rd.box hB hrb hg (Nat.le_refl _), ?_, h.base, own_sameJ hv fun k q => hk k (fun e => svs_typeJ hv h.box (by rw [← e]; exact q)), own_sameJ h.prt fun k q => hk k (fun e => svs_typeJ h.prt h.box (by rw [← e]; exact q)), h.short⟩
  rw [block_set (o := 1) _ h.box]; rfl
theorem DvI.setP {w w1 : World} {rb g kb : Nat} {c0 c1 c2 c3 c4 : Value} {x e : Wd} {nm : List UInt8} {vc vp v : Value} {cs ps ls : List (List UInt8)} {t : List Wd} (h : DvI w rb g kb c0 c1 c2 c3 c4 x e nm vc vp cs ps t w1) (hv : w1.ownsRow w.heap.size 9 1 v ls.length (svs ls)) (hrb : rb < w.heap.size) (hg : g < w.heap.size) : DvI w rb g kb c0 c1 c2 c3 c4 x e nm vc v cs ls t (w1.setCell ⟨kb, 2, none⟩ v) := by
  have hB : Below w.heap.size w1 (w1.setCell ⟨kb, 2, none⟩ v) := (Below.refl _ _).setCell h.base _
  have hk : ∀ k, k ≠ kb → (w1.setCell ⟨kb, 2, none⟩ v).heap[k]? = w1.heap[k]? := fun k q => Below.heap_setCell _ _ _ _ (by exact q)
  refine ⟨h.rd.box hB hrb hg (Nat.le_refl _), ?_, h.base, own_sameJ h.cls fun k q => hk k (fun e => svs_typeJ h.cls h.box (by rw [← e]; exact q)), own_sameJ hv fun k q => hk k (fun e => svs_typeJ hv h.box (by rw [← e]; exact q)), h.short⟩
  rw [block_set (o := 2) _ h.box]; rfl
theorem lst_short {e : Wd} {most : Nat} : ∀ (l : List Wd) (acc : List (List UInt8)) {ns : List (List UInt8)} {t : List Wd}, ShortJ e l → To.lst e most l acc = .ok (ns, t) → ShortJ e t := by
  intro l
  generalize hn : l.length = n
  induction n using Nat.strongRecOn generalizing l with
  | ind n ih =>
    intro acc ns t hs h
    rw [To.lst_eq hs.1] at h
    split at h
    · cases h
    · split at h
      · cases h
      · split at h
        · by_cases h0 : l = []
          · subst h0
            exact absurd ‹¬ Wo.nameB (Ru.nx e []).1 = false› (by rw [Ru.nx_nil, hs.1]; simp [Wo.nameB])
          · have := List.length_pos_iff.2 h0
            exact ih l.tail.tail.length (by simp only [List.length_tail]; omega) l.tail.tail rfl _ hs.tail.tail h
        · injection h with h
          injection h with _ h
          rw [← h]
          exact hs.tail
/-- list, while a device is being read. -/
theorem olist_on {w w1 : World} {rb g kb : Nat} {c0 c1 c2 c3 c4 : Value} {x e : Wd} {nm : List UInt8} {vc vp : Value} {cs ps : List (List UInt8)} {t : List Wd} {most : Nat} (h : DvI w rb g kb c0 c1 c2 c3 c4 x e nm vc vp cs ps t w1) (hrb : rb < w.heap.size) (hm : most ≤ 900) :
    Calls Tryz.prog 134 #[.pointer (some ⟨rb, 0, none⟩), .int .i64 most] w1 fun en w2 => (∃ ns t' v, Hid (To.lst e most t [] = .ok (ns, t')) ∧ en = .returned v ∧ Hid (DvI w rb g kb c0 c1 c2 c3 c4 x e nm vc vp cs ps t' w2 ∧ w2.ownsRow w.heap.size 9 1 v ns.length (svs ns))) ∨ (∃ f, Hid (To.lst e most t [] = .error f) ∧ JGave w rb f en w2) := by
  refine (olist_any h.rd.rd h.short hm).mono ?_
  rintro en w2 (⟨ns, t', v, h1, rfl, h2, h3⟩ | ⟨f, h1, h2⟩)
  · exact Or.inl ⟨ns, t', v, hid h1, rfl, hid ⟨h.on h3 hrb (lst_short t [] h.short h1), h2.mono h.rd.on.size⟩⟩
  · exact Or.inr ⟨f, hid h1, h2.after h.rd.on⟩
theorem JRd.set1 {w : World} {rb g : Nat} {c0 c1 c2 c3 c4 : Value} {x : Wd} {l : List Wd} {e : Wd} (h : JRd w rb g c0 c1 c2 c3 c4 x l e) (v : Value) : JRd (w.setCell ⟨rb, 1, none⟩ v) rb g c0 v c2 c3 c4 x l e := by
  obtain ⟨o, cap, f0, f1, f2, hc, h1, h2, h3, h4, h5⟩ := h.ex
  have eb : (w.setCell ⟨rb, 1, none⟩ v).heap[g]? = w.heap[g]? := Below.heap_setCell _ _ _ _ h3
  refine ⟨o, cap, f0, f1, f2, by rw [block_set (o := 1) _ hc]; rfl, h1, h2, h3, by simpa using h4, fun i y hy => ?_⟩
  obtain ⟨q1, q2, q3⟩ := h5 i y hy
  exact ⟨by rw [World.cell?_of_block eb]; exact q1, by rw [World.cell?_of_block eb]; exact q2, by rw [World.cell?_of_block eb]; exact q3⟩
/-- The device was put behind the others. -/
structure DvE (B : Nat) (w : World) (rb g kb nb : Nat) (c0 c1 c2 c4 : Value) (x e : Wd) (nm : List UInt8) (vc vp : Value) (cs ps ns : List (List UInt8)) (n : Nat) (xs : List Value) (v' : Value) (V : World) : Prop where
  rd : JRd V rb g c0 v' c2 (.map (some nb)) c4 x [] e
  num : NumAt V nb ns
  row : V.ownsRow B 80 3 v' (n + 1) (xs ++ [.string (tx nm), vc, vp])
  cls : V.ownsRow w.heap.size 9 1 vc cs.length (svs cs)
  prt : V.ownsRow w.heap.size 9 1 vp ps.length (svs ps)
  box : V.heap[kb]? = some (dob nm vc vp)
  at_ : v'.ownBlock = c1.ownBlock ∨ ∃ k, w.heap.size ≤ k ∧ v'.ownBlock = some k
  size : w.heap.size ≤ V.heap.size
  os : V.os = w.os
  tape : V.tape = w.tape
  output : V.output = w.output
  keep : ∀ k, k < w.heap.size → k ≠ rb → c1.ownBlock ≠ some k → V.heap[k]? = w.heap[k]?
theorem DvE.of {B : Nat} {w W w3 : World} {rb g kb nb g3 cap3 : Nat} {c0 c1 c2 c4 : Value} {x e : Wd} {nm : List UInt8} {vc vp : Value} {cs ps ns : List (List UInt8)} {n : Nat} {xs : List Value} (hI : DvI w rb g kb c0 c1 c2 (.map (some nb)) c4 x e nm vc vp cs ps [] W) (hN : NumAt w nb ns) (hD : w.ownsRow B 80 3 c1 n xs) (hnr : nb ≠ rb) (hdr : c1.ownBlock ≠ some rb) (hdg : c1.ownBlock ≠ some g) (hdn : c1.ownBlock ≠ some nb) (hrl : rb < w.heap.size) (hgl : g < w.heap.size)
    (hown : w3.ownsRow B 80 3 (.slice (some ⟨g3, 0, none⟩) (n + 1) cap3) (n + 1) (xs ++ [.string (tx nm), vc, vp])) (hg : W.grownBy w3 c1.ownBlock) (hat : c1.ownBlock = some g3 ∨ g3 = W.heap.size) :
    DvE B w rb g kb nb c0 c1 c2 c4 x e nm vc vp cs ps ns n xs (.slice (some ⟨g3, 0, none⟩) (n + 1) cap3) (w3.setCell ⟨rb, 1, none⟩ (.slice (some ⟨g3, 0, none⟩) (n + 1) cap3)) := by
  have hWs := hI.rd.on.size
  have hlt : ∀ k, c1.ownBlock = some k → k < w.heap.size := fun k hk => (hD.lt k hk).2
  have h3 : ∀ k, k < W.heap.size → c1.ownBlock ≠ some k → w3.heap[k]? = W.heap[k]? := fun k hk q => hg.block k hk (fun e => q e.symm)
  have hV : ∀ k, k ≠ rb → (w3.setCell ⟨rb, 1, none⟩ (.slice (some ⟨g3, 0, none⟩) (n + 1) cap3)).heap[k]? = w3.heap[k]? := fun k hk => Below.heap_setCell _ _ _ _ (by exact hk)
  have hnew : ∀ k, w.heap.size ≤ k → k < W.heap.size → (w3.setCell ⟨rb, 1, none⟩ (.slice (some ⟨g3, 0, none⟩) (n + 1) cap3)).heap[k]? = W.heap[k]? := fun k h1 h2 => (hV k (by omega)).trans (h3 k h2 (fun q => by have := hlt k q; omega))
  have hkb := lt_of_block hI.box
  refine ⟨?_, ?_, ?_, own_sameJ hI.cls fun k q => hnew k (hI.cls.lt k q).1 (hI.cls.lt k q).2, own_sameJ hI.prt fun k q => hnew k (hI.prt.lt k q).1 (hI.prt.lt k q).2, (hnew kb hI.base hkb).trans hI.box, ?_, ?_, hg.os.trans hI.rd.on.os, hg.tape.trans hI.rd.on.tape, hg.output.trans hI.rd.on.output, fun k hk h1 h2 => ?_⟩
  · exact (hI.rd.rd.grown (fun k hk => h3 k (by rcases hk with rfl | rfl <;> omega) (by rcases hk with rfl | rfl; exact hdr; exact hdg)) hg.size).set1 _
  · have hb : (w3.setCell ⟨rb, 1, none⟩ (.slice (some ⟨g3, 0, none⟩) (n + 1) cap3)).heap[nb]? = w.heap[nb]? := (hV nb hnr).trans ((h3 nb (by have := hN.lt; omega) hdn).trans (hI.rd.on.block nb hN.lt (fun q => hnr (by injection q))))
    exact hN.same hb
  · refine own_sameJ hown fun k q => hV k ?_
    have e : g3 = k := by simpa [Value.ownBlock] using q
    subst e
    rcases hat with q | q
    · rintro rfl; exact hdr q
    · omega
  · rcases hat with q | q
    · exact Or.inl (by rw [q]; rfl)
    · exact Or.inr ⟨g3, by omega, rfl⟩
  · have := hg.size
    simp only [World.size_setCell]
    omega
  · rw [hV k h1, h3 k (by omega) h2, hI.rd.on.block k hk (fun q => h1 (by injection q))]
end Go.Proofs.YtebaopiedlioiaaGreatDoor
