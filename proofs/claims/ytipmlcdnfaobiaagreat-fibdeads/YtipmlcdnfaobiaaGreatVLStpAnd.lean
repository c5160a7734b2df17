/-
  What is done with headers, kept in a row of one's own.
  What both Dead tell, in one form.
  The law FibSteps: of any width and any changes it answers true.
-/
import Derived.Test.YtipmlcdnfaobiaaGreatVMadeAnd
import Derived.BigQuiet
import Derived.Test.YtipmlcdnfaobiaaGreatVPDeadAnd
namespace Go.Proofs.YtipmlcdnfaobiaaGreat
open Go.RowKit

theorem FTab.grewF {w w' : World} {Bp tb b : Nat} {W : Int} {L : List Raw} {cs : Array Value} {r : Nat × Nat} (h : FTab w Bp tb W L) (hg : w.grownBy w' (some b)) (hb : w.heap[b]? = some (.cells cs 72 r)) (hne : tb ≠ b) : FTab w' Bp tb W L := by
  obtain ⟨v, ps, ht, e⟩ := h.ex
  refine ⟨h.base, v, ps, ⟨?_, ht.list.grew hg hb (by decide), fun q hq => (ht.ports q hq).grewB hg hb (by decide), ht.good⟩, e⟩
  rw [hg.block tb (lt_of_block ht.blk) (fun e => by injection e with e; exact hne e)]
  exact ht.blk
theorem FTab.low {w : World} {Bp tb : Nat} {W : Int} {L : List Raw} (h : FTab w Bp tb W L) : FTab w 0 tb W L := by
  obtain ⟨v, ps, ht, e⟩ := h.ex
  exact ⟨Nat.zero_le _, v, ps, ⟨ht.blk, ⟨own_mono ht.list.own (Nat.zero_le _), ht.list.vals⟩, fun q hq => (ht.ports q hq).mono (Nat.zero_le _), ht.good⟩, e⟩
/-- Three tables and a document's. -/
structure Tri (w0 w : World) (tb ub vb rb : Nat) (W : Int) (A B C L : List Raw) : Prop where
  low : Below w0.heap.size w0 w
  ot : w0.heap.size ≤ tb
  ou : w0.heap.size ≤ ub
  ov : w0.heap.size ≤ vb
  t : FTab w 0 tb W A
  u : FTab w 0 ub W B
  v : FTab w 0 vb W C
  doc : DTab w 0 rb W L
  tu : tb ≠ ub
  tv : tb ≠ vb
  uv : ub ≠ vb
theorem Tri.on {w0 w w' : World} {tb ub vb rb : Nat} {W : Int} {A B C L : List Raw} (h : Tri w0 w tb ub vb rb W A B C L) (hb : Below w.heap.size w w') : Tri w0 w' tb ub vb rb W A B C L :=
  ⟨below_2 h.low hb, h.ot, h.ou, h.ov, h.t.on hb, h.u.on hb, h.v.on hb, h.doc.on hb, h.tu, h.tv, h.uv⟩
theorem Tri.doT {w0 w w' : World} {tb ub vb rb : Nat} {W : Int} {A A' B C L : List Raw} (h : Tri w0 w tb ub vb rb W A B C L) (hg : w.grownBy w' (some tb)) (hA : FTab w' 0 tb W A') : Tri w0 w' tb ub vb rb W A' B C L := by
  obtain ⟨cs, hb⟩ := h.t.blk
  exact ⟨grown_low h.low hg h.ot, h.ot, h.ou, h.ov, hA, h.u.grewF hg hb h.tu.symm, h.v.grewF hg hb h.tv.symm, h.doc.grew hg hb, h.tu, h.tv, h.uv⟩
theorem Tri.doU {w0 w w' : World} {tb ub vb rb : Nat} {W : Int} {A B B' C L : List Raw} (h : Tri w0 w tb ub vb rb W A B C L) (hg : w.grownBy w' (some ub)) (hB : FTab w' 0 ub W B') : Tri w0 w' tb ub vb rb W A B' C L := by
  obtain ⟨cs, hb⟩ := h.u.blk
  exact ⟨grown_low h.low hg h.ou, h.ot, h.ou, h.ov, h.t.grewF hg hb h.tu, hB, h.v.grewF hg hb h.uv.symm, h.doc.grew hg hb, h.tu, h.tv, h.uv⟩
theorem Tri.doV {w0 w w' : World} {tb ub vb rb : Nat} {W : Int} {A B C C' L : List Raw} (h : Tri w0 w tb ub vb rb W A B C L) (hg : w.grownBy w' (some vb)) (hC : FTab w' 0 vb W C') : Tri w0 w' tb ub vb rb W A B C' L := by
  obtain ⟨cs, hb⟩ := h.v.blk
  exact ⟨grown_low h.low hg h.ov, h.ot, h.ou, h.ov, h.t.grewF hg hb h.tv, h.u.grewF hg hb h.uv, hC, h.doc.grew hg hb, h.tu, h.tv, h.uv⟩
/-- Rules of a table, and then the rules held against the document's. -/
theorem two_rows {w : World} {Bp Q tb rb : Nat} {W : Int} {L : List Raw} (hF : FTab w Bp tb W L) (hD : DTab w Q rb W L) : ∃ lo nl lc, nl = L.length ∧ w.cell? ⟨rb, 1, none⟩ = some (.slice lo nl lc) ∧ ∀ X, Below w.heap.size w X → Calls Tryz.prog 12 #[.pointer (some ⟨tb, 0, none⟩)] X fun e w' => ∃ a n c, e = .returned (.slice a n c) ∧ Below X.heap.size X w' ∧ w'.cell? ⟨rb, 1, none⟩ = some (.slice lo nl lc) ∧ Calls Tryz.prog 11 #[.slice a n c, .slice lo nl lc] w' fun e w'' => e = .returned (.bool true) ∧ Below w'.heap.size w' w'' := by
  obtain ⟨lo, lc, hc, qs, e, hr, _⟩ := hD.row
  refine ⟨lo, L.length, lc, rfl, hc, fun X hX => (Rules_any (hF.on hX)).mono ?_⟩
  rintro en w' ⟨v, qs2, rfl, ⟨a, n, c, rfl⟩, h2, e2, _, hb⟩
  have hb2 := below_2 hX hb
  exact ⟨a, n, c, rfl, hb, (hb2.cell (block_old hc)).trans hc, same_rows h2 (hr.on hb2) hF.good e2 e⟩
/-- Rules of two tables, held against each other. -/
theorem two_tabs {w : World} {Bp Bq tb ub : Nat} {W : Int} {L : List Raw} (hF : FTab w Bp tb W L) (hG : FTab w Bq ub W L) : Calls Tryz.prog 12 #[.pointer (some ⟨tb, 0, none⟩)] w fun e w' => ∃ a n c, e = .returned (.slice a n c) ∧ Below w.heap.size w w' ∧ Hid (Calls Tryz.prog 12 #[.pointer (some ⟨ub, 0, none⟩)] w' fun e w'' => ∃ a2 n2 c2, e = .returned (.slice a2 n2 c2) ∧ Below w'.heap.size w' w'' ∧ Hid (Calls Tryz.prog 11 #[.slice a n c, .slice a2 n2 c2] w'' fun e w3 => e = .returned (.bool true) ∧ Below w''.heap.size w'' w3)) := by
  refine (Rules_any hF).mono ?_
  rintro en w' ⟨v, qs, rfl, ⟨a, n, c, rfl⟩, h2, e2, _, hb⟩
  refine ⟨a, n, c, rfl, hb, (Rules_any (hG.on hb)).mono ?_⟩
  rintro en w'' ⟨v2, qs2, rfl, ⟨a2, n2, c2, rfl⟩, h3, e3, _, hb3⟩
  exact ⟨a2, n2, c2, rfl, hb3, same_rows (h2.on hb3) h3 hF.good e2 e3⟩

set_option maxRecDepth 20000 in
set_option maxHeartbeats 4000000 in
theorem fsteps_bad {w : World} {ao bo : Option Addr} {n cap n2 cap2 : Nat} {W : Int} (h : ¬ (1 ≤ W ∧ W ≤ 128)) : Calls Tryz.prog 7 #[.int .i64 W, .slice ao n cap, .slice bo n2 cap2] w fun e w' => e = .returned (.bool true) ∧ Below w.heap.size w w' := by
  have HM := hid (fun X : World => made_bad (w := X) (ao := ao) (n := n) (cap := cap) h)
  have p2 := eqlR_two
  go_enter Tryz.func7, Tryz.ntmps7
  go_wp2_with fail
  refine (HM.out _).mono ?_
  rintro en w1 ⟨rfl, hb1⟩
  have B1 := hid hb1
  clear hb1
  go_wp2_with fail
  refine (HM.out _).mono ?_
  rintro en w2 ⟨rfl, hb2⟩
  have B2 := hid (below_2 B1.out hb2)
  clear hb2
  go_wp2_with fail
  refine (HM.out _).mono ?_
  rintro en w3 ⟨rfl, hb3⟩
  have B3 := hid (below_2 B2.out hb3)
  clear hb3
  go_wp2_with (go_at_call 10; refine (fawake _).mono ?_; rintro e wz ⟨rfl, hbz⟩; have BZ := hid (below_2 B3.out hbz); clear hbz)
  go_ret
  exact ⟨rfl, BZ.out⟩
/-- Where the first loop stands. -/
structure StpAt (w0 w : World) (tb ub vb rb : Nat) (W : Int) (A B L : List Raw) (cs : List (Int × Raw)) (i : Nat) (un : Bool) : Prop where
  tri : Tri w0 w tb ub vb rb W A B L L
  run : runN W L (cs.take i) 0 = .ok B
  unl : un = true → Unl (cs.take i)
theorem unl_snoc {cs : List (Int × Raw)} {i : Nat} {c : Int × Raw} (hc : cs[i]? = some c) (h : Unl (cs.take i)) (ha : ∀ t d, t < i → cs[t]? = some d → keyB c.2 d.2 = false) : Unl (cs.take (i + 1)) := by
  unfold Unl at *
  rw [List.take_add_one, hc]
  refine List.pairwise_append.2 ⟨h, List.pairwise_singleton _ _, fun d hd x hx => ?_⟩
  have hx : x = c := by simpa using hx
  subst hx
  obtain ⟨t, ht, e⟩ := List.mem_take_iff_getElem.1 hd
  rw [keyB_comm]
  exact ha t d (by omega) (by rw [← e]; exact List.getElem?_eq_getElem _)

set_option maxRecDepth 20000 in
set_option maxHeartbeats 8000000 in
theorem fsteps_good {w : World} {ao bo : Option Addr} {n cap n2 cap2 : Nat} {W : Int} {cs ds : List (Int × Raw × Value)} (h : 1 ≤ W ∧ W ≤ 128) (hc : ChIn w ao cs) (hn : cs.length = n) (hnc : n ≤ cap) (hs : ∀ u ∈ cs, Small u.2.1.mat u.2.1.ports) (h63 : n ≤ maxLen)
    (hd : ChIn w bo ds) (hdn : ds.length = n2) (hd64 : n2 * 64 ≤ 140737488355328) : Calls Tryz.prog 7 #[.int .i64 W, .slice ao n cap, .slice bo n2 cap2] w fun e w' => e = .returned (.bool true) ∧ Below w.heap.size w w' := by
  have HM := hid (fun (X : World) (hX : Below w.heap.size w X) => made_good h (hc.on hX) hn hnc hs h63)
  have HG := hid (madeN_good h ((chs cs).take 100))
  have HC := hid hd
  have HN := hid hdn
  have p2 := eqlR_none
  obtain ⟨L, hL⟩ : ∃ L, L = madeN W ((chs cs).take 100) := ⟨_, rfl⟩
  rw [← hL] at HM HG
  clear hc hn hs hd hdn hL
  go_enter Tryz.func7, Tryz.ntmps7
  go_wp2_with fail
  refine (HM.out _ (Below.refl _ _)).mono ?_
  rintro en w1 ⟨tb, rb, rfl, h1⟩
  have B1 := hid h1.out
  clear h1
  go_wp2_with fail
  refine (HM.out _ B1.out.low).mono ?_
  rintro en w2 ⟨ub, rb2, rfl, h2⟩
  have B2 := hid h2.out
  have L2 := hid (below_2 B1.out.low h2.out.low)
  clear h2
  go_wp2_with fail
  refine (HM.out _ L2.out).mono ?_
  rintro en w3 ⟨vb, rb3, rfl, h3⟩
  have T3 := hid (show Tri w w3 tb ub vb rb W L L L L from by
    have b3 := h3.out
    have lt1 := B1.out.fib.lt
    have lt2 := B2.out.fib.lt
    have o2 := B2.out.ot
    have o3 := b3.ot
    have s1 := B1.out.low.size
    have s2 := B2.out.low.size
    exact ⟨below_2 L2.out b3.low, B1.out.ot, by omega, by omega, ((B1.out.fib.on B2.out.low).on b3.low).low, (B2.out.fib.on b3.low).low, b3.fib.low, ((B1.out.doc.on B2.out.low).on b3.low).low, by omega, by omega, by omega⟩)
  clear h3 B1 B2 L2
  go_wp2_with (first | (go_at_call 10; refine (fawake _).mono ?_; rintro e wz ⟨rfl, hbz⟩; have TZ := hid (T3.out.on hbz); clear hbz) | fail)
  have HDO := hid (Do_any (cap := cap2) TZ.out.t (HC.out.on TZ.out.low) HN.out hd64)
  clear HM T3 p2
  refine HDO.out.mono ?_
  rintro en w4 ⟨hg4, hd4⟩
  rcases hd4 with ⟨L', hrun, rfl, hF4⟩ | ⟨i, er, _, hne, rfl, hF4⟩
  · have T4 := hid (TZ.out.doT hg4 hF4)
    have HRUN := hid hrun
    clear hg4 hF4 hrun HDO TZ
    have h264I : (n2 : Int) ≤ 9223372036854775807 := by omega
    go_wp2_with fail
    go_loopw [18, 19] (fun vu vi wr => ∃ (i : Nat) (un : Bool) (B : List Raw), i ≤ n2 ∧ vi = .int .i64 i ∧ vu = .bool un ∧ Hid (StpAt w wr tb ub vb rb W L' B L (chs ds) i un)) (fun _ vi _ => n2 - (intOf vi).toNat)
    case atStart => exact ⟨0, true, L, Nat.zero_le _, rfl, rfl, T4.out, rfl, fun _ => List.Pairwise.nil⟩
    case round =>
      clear T4
      obtain ⟨i, un, B, hi, rfl, rfl, HA⟩ := hrel
      rename World => wo
      by_cases hlt : i < n2
      · have hiI : (i : Int) < (n2 : Int) := by omega
        have hi0 : (0 : Int) ≤ (i : Int) := by omega
        obtain ⟨u, hu⟩ : ∃ u, ds[i]? = some u := ⟨ds[i]'(by rw [HN.out]; exact hlt), List.getElem?_eq_getElem _⟩
        obtain ⟨g, o, rfl⟩ : ∃ g o, bo = some ⟨g, o, none⟩ := by
          rcases HC.out with q | ⟨g, o, e, _⟩
          · rw [q] at hu; simp at hu
          · exact ⟨g, o, e⟩
        have HVW := hid (show ∀ X, Below w.heap.size w X → ChView X g o ds from fun X hX => by
          rcases HC.out.on hX with q | ⟨g', o', e, hv⟩
          · rw [q] at hu; simp at hu
          · cases e; exact hv)
        have HCU := hid (show (chs ds)[i]? = some (u.1, u.2.1) by rw [List.getElem?_map, hu]; rfl)
        have HTX := hid (show ∀ X, Below w.heap.size w X → Txs X u.2.2 u.2.1.ports from fun X hX => ((HVW.out X hX).ports u (List.mem_of_getElem? hu)).1)
        have HPL := hid (((HVW.out wo HA.out.tri.low).ports u (List.mem_of_getElem? hu)).2)
        have HCL := hid (show ∀ X, Below w.heap.size w X → _ from fun X hX => (HVW.out X hX).cell i u hu)
        obtain ⟨kd, ⟨p, m, k, zs⟩, uv⟩ := u
        simp only at HCU HTX HPL HCL
        obtain ⟨uo, uc, huv, _⟩ := HTX.out wo HA.out.tri.low
        obtain ⟨un1, hun⟩ : ∃ un1, un1 = zs.length := ⟨_, rfl⟩
        rw [← hun] at huv
        subst huv
        clear hu hun
        obtain ⟨c0, c1, c2, c3, c4⟩ := HCL.out wo HA.out.tri.low
        have HBW := hid (show Below wo.heap.size wo (wo.alloc (cob5 kd p m k (.slice uo un1 uc))) from (Below.refl _ _).alloc (Nat.le_refl _) _)
        have HDO := hid (Do_any (cap := 1) (n := 1) (HA.out.tri.on HBW.out).u (one_view (kd := kd) (p := p) (m := m) (k := k) (HTX.out wo HA.out.tri.low) HPL.out) rfl (by decide))
        obtain ⟨B2, hst, hrn⟩ := run_next HRUN.out HA.out.run HCU.out
        have HST := hid hst
        have HRN := hid hrn
        clear hst hrn
        go_wp2_with fail
        refine HDO.out.mono ?_
        rintro en w5 ⟨hg5, hd5⟩
        rw [show chs [((kd, (⟨p, m, k, zs⟩ : Raw), Value.slice uo un1 uc) : Int × Raw × Value)] = [(kd, ⟨p, m, k, zs⟩)] from rfl, run_one, HST.out] at hd5
        obtain ⟨rfl, HF5⟩ : en = .returned (.tuple #[.int .i64 0, .int .i64 0]) ∧ Hid (FTab w5 0 ub W B2) := by
          rcases hd5 with ⟨L5, h1, h2, h3⟩ | ⟨i5, er, h1, _⟩
          · injection h1 with h1; subst h1; exact ⟨h2, h3⟩
          · cases h1
        have T5 := hid ((HA.out.tri.on HBW.out).doU hg5 HF5.out)
        clear hg5 hd5 c0 c1 c2 c3 c4 HDO HF5
        go_wp2_with fail
        go_loopw [18, 22] (fun vu vk wr => ∃ (t : Nat) (ux : Bool), t ≤ i ∧ vk = .int .i64 t ∧ vu = .bool ux ∧ Hid (Tri w wr tb ub vb rb W L' B2 L L) ∧ Hid (ux = true → Unl ((chs ds).take i) ∧ ∀ (s : Nat) (d : Int × Raw), s < t → (chs ds)[s]? = some d → keyB ⟨p, m, k, zs⟩ d.2 = false)) (fun _ vk _ => i - (intOf vk).toNat)
        case atStart => exact ⟨0, un, Nat.zero_le _, rfl, rfl, T5, fun h => ⟨HA.out.unl h, fun s d hs => by omega⟩⟩
        case round =>
          clear T5
          obtain ⟨t, ux, ht, rfl, rfl, HT, HU⟩ := hrel
          rename World => wi
          by_cases hti : t < i
          · have htI : (t : Int) < (i : Int) := by omega
            have ht0 : (0 : Int) ≤ (t : Int) := by omega
            have htn : (t : Int) < (n2 : Int) := by omega
            obtain ⟨u2, hu2⟩ : ∃ u2, ds[t]? = some u2 := ⟨ds[t]'(by rw [HN.out]; omega), List.getElem?_eq_getElem _⟩
            have HCU2 := hid (show (chs ds)[t]? = some (u2.1, u2.2.1) by rw [List.getElem?_map, hu2]; rfl)
            obtain ⟨_, e1, e2, _, _⟩ := (HVW.out wi HT.out.low).cell t u2 hu2
            obtain ⟨_, c1, c2, _, _⟩ := HCL.out wi HT.out.low
            obtain ⟨kd2, ⟨p2, m2, k2, zs2⟩, uv2⟩ := u2
            simp only at HCU2 e1 e2
            have HNX := hid (show ∀ ub2 : Bool, (ub2 = true → (ux = true ∧ keyB ⟨p, m, k, zs⟩ ⟨p2, m2, k2, zs2⟩ = false)) → (ub2 = true → Unl ((chs ds).take i) ∧ ∀ (s : Nat) (d : Int × Raw), s < t + 1 → (chs ds)[s]? = some d → keyB ⟨p, m, k, zs⟩ d.2 = false) from fun ub2 h1 h2 => by
              obtain ⟨q1, q2⟩ := h1 h2
              refine ⟨(HU.out q1).1, fun s d hs hd => ?_⟩
              by_cases hst : s < t
              · exact (HU.out q1).2 s d hst hd
              · have : s = t := by omega
                subst this
                rw [HCU2.out] at hd
                injection hd with hd
                rw [← hd]; exact q2)
            have HTD := hid (fun nq : Nat => HT.out.on (below_drewN (n := nq) (Below.refl wi.heap.size wi)))
            clear hu2
            cases ux with
            | false =>
              have HF := hid (HNX.out false (fun h => by cases h))
              go_wp2
              go_quiet (fail)
              go_wp2
              go_roundw
              case rel => exact ⟨t + 1, false, by omega, by go_num, rfl, HTD.out _, fun h => HF.out (by first | exact h | trivial)⟩
              case measure => simp [intOf]; omega
            | true =>
              by_cases hp : p = p2
              · subst hp
                have b1 : (p != p) = false := by simp
                by_cases hm : m = m2
                · subst hm
                  have b2 : (m != m) = false := by simp
                  have HF := hid (HNX.out false (fun h => by cases h))
                  go_wp2
                  go_quiet (fail)
                  go_wp2
                  go_roundw
                  case rel => exact ⟨t + 1, false, by omega, by go_num, rfl, HTD.out _, fun h => HF.out (by first | exact h | trivial)⟩
                  case measure => simp [intOf]; omega
                · have b2 : (m == m2) = false := by simpa using hm
                  have HF := hid (HNX.out true (fun _ => ⟨rfl, by unfold keyB; simp [hm]⟩))
                  clear hm
                  go_wp2
                  go_quiet (fail)
                  go_wp2
                  go_roundw
                  case rel => exact ⟨t + 1, true, by omega, by go_num, rfl, HTD.out _, fun h => HF.out (by first | exact h | trivial)⟩
                  case measure => simp [intOf]; omega
              · have b1 : (p != p2) = true := by simpa using hp
                have HF := hid (HNX.out true (fun _ => ⟨rfl, by unfold keyB; simp [hp]⟩))
                clear hp
                go_wp2
                go_quiet (fail)
                go_wp2
                go_roundw
                case rel => exact ⟨t + 1, true, by omega, by go_num, rfl, HTD.out _, fun h => HF.out (by first | exact h | trivial)⟩
                case measure => simp [intOf]; omega
          · have htI : ¬ ((t : Int) < (i : Int)) := by omega
            have HA2 := hid (show StpAt w wi tb ub vb rb W L' B2 L (chs ds) (i + 1) ux from ⟨HT.out, HRN.out, fun h => unl_snoc HCU.out (HU.out h).1 (fun s d hs hd => (HU.out h).2 s d (by omega) hd)⟩)
            go_wp2
            go_roundw
            case rel => exact ⟨i + 1, ux, B2, by omega, by go_num, rfl, HA2⟩
            case measure => simp [intOf]; omega
      · have hiI : ¬ ((i : Int) < (n2 : Int)) := by omega
        have HB := hid (show B = L' by
          have e : i = n2 := by omega
          have := HA.out.run
          rw [e, List.take_of_length_le (by rw [List.length_map, HN.out]; exact Nat.le_refl _), HRUN.out] at this
          injection this with this
          exact this.symm)
        have HT := hid (show Tri w wo tb ub vb rb W L' L' L L by rw [← HB.out]; rw [← HB.out] at HA; exact HA.out.tri)
        have HUN := hid (show un = true → Unl (chs ds) from fun q => by
          have e : i = n2 := by omega
          have := HA.out.unl q
          rw [e, List.take_of_length_le (by rw [List.length_map, HN.out]; exact Nat.le_refl _)] at this
          exact this)
        clear HA HB
        have HTT := hid (two_tabs HT.out.t HT.out.u)
        go_wp2_with fail
        refine HTT.out.mono ?_
        rintro en w5 ⟨a5, n5, c5, rfl, hb5, h5⟩
        have HB5 := hid hb5
        clear hb5
        go_wp2_with fail
        refine h5.out.mono ?_
        rintro en w6 ⟨a6, n6, c6, rfl, hb6, h6⟩
        have HB6 := hid (below_2 HB5.out hb6)
        clear hb6 h5
        go_wp2_with fail
        refine h6.out.mono ?_
        rintro en w7 ⟨rfl, hb7⟩
        have T7 := hid (HT.out.on (below_2 HB6.out hb7))
        clear hb7 h6 HTT HT HB5 HB6
        cases un with
        | false =>
          go_wp2
          go_ret
          exact ⟨rfl, T7.out.low⟩
        | true =>
          have HU := hid (HUN.out rfl)
          obtain ⟨lo, lc, hS0, -, -, -⟩ := T7.out.doc.row
          obtain ⟨nl, hnl⟩ : ∃ nl, nl = L.length := ⟨_, rfl⟩
          rw [← hnl] at hS0
          have HNL := hid hnl
          have hnl4 : nl ≤ 4096 := by rw [hnl]; exact HG.out.few
          have hw : IntKind.i64.wrap ((nl : Int) + (n2 : Int)) = (nl : Int) + (n2 : Int) := by rw [IntKind.wrap_i64]; omega
          clear hnl
          by_cases hgt : (4096 : Int) < (nl : Int) + (n2 : Int)
          · go_wp2
            go_ret
            exact ⟨rfl, T7.out.low⟩
          · have HREV := hid (run_rev HG.out HU.out HRUN.out (by rw [List.length_map, HN.out, ← HNL.out]; omega))
            go_wp2_with fail
            clear HUN hgt hw hS0
            go_loopw [23] (fun vi wr => ∃ (s : Nat) (Lv : List Raw), s ≤ n2 ∧ vi = .int .i64 ((s : Int) - 1) ∧ Hid (Tri w wr tb ub vb rb W L' L' Lv L) ∧ Hid (runN W L ((chs ds).reverse.take (n2 - s)) 0 = .ok Lv)) (fun vi _ => (intOf vi + 1).toNat)
            case atStart => exact ⟨n2, L, Nat.le_refl _, by go_num, T7, by show _ = _; rw [Nat.sub_self]; rfl⟩
            case round =>
              clear T7
              obtain ⟨s, Lv, hs, rfl, HT, HR⟩ := hrel
              rename World => wv
              by_cases hs0 : s = 0
              · subst hs0
                have HL := hid (show Lv = L' by
                  have := HR.out
                  rw [Nat.sub_zero, List.take_of_length_le (by rw [List.length_reverse, List.length_map, HN.out]; exact Nat.le_refl _), HREV.out] at this
                  injection this with this
                  exact this.symm)
                have HTT := hid (two_tabs HT.out.t (show FTab wv 0 vb W L' by rw [← HL.out]; exact HT.out.v))
                go_wp2_with fail
                refine HTT.out.mono ?_
                rintro en w8 ⟨a8, n8, c8, rfl, hb8, h8⟩
                have HB8 := hid hb8
                clear hb8
                go_wp2_with fail
                refine h8.out.mono ?_
                rintro en w9 ⟨a9, n9, c9, rfl, hb9, h9⟩
                have HB9 := hid (below_2 HB8.out hb9)
                clear hb9 h8
                go_wp2_with fail
                refine h9.out.mono ?_
                rintro en w10 ⟨rfl, hb10⟩
                have T10 := hid (HT.out.on (below_2 HB9.out hb10))
                clear hb10 h9
                go_wp2
                go_ret
                exact ⟨rfl, T10.out.low⟩
              · obtain ⟨q, rfl⟩ : ∃ q, s = q + 1 := ⟨s - 1, by omega⟩
                have eq1 : (((q + 1 : Nat) : Int) - 1) = (q : Int) := by omega
                rw [eq1]
                have hqI : (q : Int) < (n2 : Int) := by omega
                have hq0 : (0 : Int) ≤ (q : Int) := by omega
                obtain ⟨u, hu⟩ : ∃ u, ds[q]? = some u := ⟨ds[q]'(by rw [HN.out]; omega), List.getElem?_eq_getElem _⟩
                obtain ⟨g, o, rfl⟩ : ∃ g o, bo = some ⟨g, o, none⟩ := by
                  rcases HC.out with q | ⟨g, o, e, _⟩
                  · rw [q] at hu; simp at hu
                  · exact ⟨g, o, e⟩
                have HVW := hid (show ∀ X, Below w.heap.size w X → ChView X g o ds from fun X hX => by
                  rcases HC.out.on hX with q | ⟨g', o', e, hv⟩
                  · rw [q] at hu; simp at hu
                  · cases e; exact hv)
                have HCU := hid (show (chs ds).reverse[n2 - (q + 1)]? = some (u.1, u.2.1) by
                  have hl : (chs ds).length = n2 := by rw [List.length_map, HN.out]
                  rw [List.getElem?_reverse (by rw [hl]; omega), hl, show n2 - 1 - (n2 - (q + 1)) = q by omega, List.getElem?_map, hu]; rfl)
                have HTX := hid (show ∀ X, Below w.heap.size w X → Txs X u.2.2 u.2.1.ports from fun X hX => ((HVW.out X hX).ports u (List.mem_of_getElem? hu)).1)
                have HPL := hid (((HVW.out wv HT.out.low).ports u (List.mem_of_getElem? hu)).2)
                have HCL := hid (show ∀ X, Below w.heap.size w X → _ from fun X hX => (HVW.out X hX).cell q u hu)
                obtain ⟨kd, ⟨p, m, k, zs⟩, uv⟩ := u
                simp only at HCU HTX HPL HCL
                obtain ⟨uo, uc, huv, _⟩ := HTX.out wv HT.out.low
                obtain ⟨un1, hun⟩ : ∃ un1, un1 = zs.length := ⟨_, rfl⟩
                rw [← hun] at huv
                subst huv
                clear hu hun eq1
                obtain ⟨c0, c1, c2, c3, c4⟩ := HCL.out wv HT.out.low
                have HBW := hid (show Below wv.heap.size wv (wv.alloc (cob5 kd p m k (.slice uo un1 uc))) from (Below.refl _ _).alloc (Nat.le_refl _) _)
                have HDO := hid (Do_any (cap := 1) (n := 1) (HT.out.on HBW.out).v (one_view (kd := kd) (p := p) (m := m) (k := k) (HTX.out wv HT.out.low) HPL.out) rfl (by decide))
                obtain ⟨B2, hst, hrn⟩ := run_next HREV.out HR.out HCU.out
                have HST := hid hst
                have HRN := hid (show runN W L ((chs ds).reverse.take (n2 - q)) 0 = .ok B2 by rw [show n2 - q = n2 - (q + 1) + 1 by omega]; exact hrn)
                clear hst hrn
                go_wp2_with fail
                refine HDO.out.mono ?_
                rintro en w8 ⟨hg8, hd8⟩
                rw [show chs [((kd, (⟨p, m, k, zs⟩ : Raw), Value.slice uo un1 uc) : Int × Raw × Value)] = [(kd, ⟨p, m, k, zs⟩)] from rfl, run_one, HST.out] at hd8
                obtain ⟨rfl, HF8⟩ : en = .returned (.tuple #[.int .i64 0, .int .i64 0]) ∧ Hid (FTab w8 0 vb W B2) := by
                  rcases hd8 with ⟨L5, h1, h2, h3⟩ | ⟨i5, er, h1, _⟩
                  · injection h1 with h1; subst h1; exact ⟨h2, h3⟩
                  · cases h1
                have T8 := hid ((HT.out.on HBW.out).doV hg8 HF8.out)
                clear hg8 hd8 c0 c1 c2 c3 c4 HDO HF8
                go_wp2
                go_roundw
                case rel => exact ⟨q, B2, by omega, by go_num, T8, HRN⟩
                case measure => simp [intOf]
  · have T4 := hid (TZ.out.doT hg4 hF4)
    have hne2 : (er != 0) = true := by rw [bne_iff_ne]; exact hne
    clear hg4 hF4 hne HDO TZ
    obtain ⟨lo, nl, lc, -, hS0, hr1⟩ := two_rows T4.out.t T4.out.doc
    have HR1 := hid hr1
    clear hr1
    go_wp2_with fail
    go_region_held2 (fun W' => W'.cell? ⟨rb, 1, none⟩ = some (.slice lo nl lc)) (first | exact hS0 | exact hS2 | exact hS3) (first | (go_at_call 12; refine (HR1.out _ ((Below.refl _ _).drew)).mono ?_; rintro en w5 ⟨a5, n5, c5, rfl, hb5, hS2, hsm⟩; have HSM := hid hsm; have HB5 := hid (below_2 ((Below.refl w4.heap.size w4).drew) hb5); clear hb5 hsm) | (go_at_call 11; refine HSM.out.mono ?_; rintro en w6 ⟨rfl, hb6⟩; have hS3 := (hb6.cell (block_old hS2)).trans hS2; have T6 := hid (T4.out.on (below_2 HB5.out hb6)); clear hb6))
    clear hS0 hS2 hS3 HR1 HSM
    go_wp2
    go_ret
    exact ⟨rfl, T6.out.low⟩
theorem fsteps_any {w : World} {ao bo : Option Addr} {n cap n2 cap2 : Nat} {W : Int} {cs ds : List (Int × Raw × Value)} (hc : ChIn w ao cs) (hn : cs.length = n) (hnc : n ≤ cap) (hs : ∀ u ∈ cs, Small u.2.1.mat u.2.1.ports) (h64 : n * 64 ≤ 140737488355328)
    (hd : ChIn w bo ds) (hdn : ds.length = n2) (hd64 : n2 * 64 ≤ 140737488355328) : Calls Tryz.prog 7 #[.int .i64 W, .slice ao n cap, .slice bo n2 cap2] w fun e w' => e = .returned (.bool true) ∧ Below w.heap.size w w' := by
  by_cases h : 1 ≤ W ∧ W ≤ 128
  · exact fsteps_good h hc hn hnc hs (by unfold maxLen; omega) hd hdn hd64
  · exact fsteps_bad h
end Go.Proofs.YtipmlcdnfaobiaaGreat
namespace Go.Proofs.YtipmlcdnfaobiaaGreat
open Go.RowKit

theorem GoodT.sub {W : Int} {L D : List Raw} (h : GoodT W L) (hd : D.Sublist L) : GoodT W D := ⟨h.wide, h.srt.sublist hd, Nat.le_trans hd.length_le h.few, fun r hr => h.ok r (hd.subset hr)⟩
theorem stD_sub {L : List Raw} : ∀ k, k ≤ L.length → (stD (L.take k)).2.Sublist (L.take k) := by
  intro k
  induction k with
  | zero => intro _; exact List.Sublist.refl _
  | succ k ih =>
    intro hk
    obtain ⟨x, hx⟩ : ∃ x, L[k]? = some x := ⟨L[k], List.getElem?_eq_getElem (by omega)⟩
    have et : L.take (k + 1) = L.take k ++ [x] := by rw [List.take_add_one, hx]; rfl
    rw [et, stD_snoc]
    unfold stepD
    split
    · exact (ih (by omega)).append (List.Sublist.refl _)
    · exact (ih (by omega)).trans (List.sublist_append_left _ _)
theorem deads_sub (L : List Raw) : (stD L).2.Sublist L := by
  have := stD_sub (L := L) L.length (Nat.le_refl _)
  rw [List.take_length] at this
  exact this
/-- What Dead tells, by its number. -/
def DedV (L : List Raw) (y : Int) (D : List Raw) : Prop :=
  (y = 3 ∧ D = [] ∧ ∃ i r, L[i]? = some r ∧ Cub.manyB r.mat (mats (L.take i)) = true) ∨ (y = 0 ∧ D = (stD L).2 ∧ ∀ (i : Nat) (r : Raw), L[i]? = some r → Cub.manyB r.mat (mats (L.take i)) = false)
theorem DedV.uniq {L D D' : List Raw} {y y' : Int} (h : DedV L y D) (h' : DedV L y' D') : y' = y ∧ D' = D := by
  rcases h with ⟨h1, h2, i, r, hr, hm⟩ | ⟨h1, h2, h3⟩
  · rcases h' with ⟨k1, k2, _⟩ | ⟨k1, k2, k3⟩
    · exact ⟨by rw [k1, h1], by rw [k2, h2]⟩
    · rw [k3 i r hr] at hm; cases hm
  · rcases h' with ⟨k1, k2, i, r, hr, hm⟩ | ⟨k1, k2, k3⟩
    · rw [h3 i r hr] at hm; cases hm
    · exact ⟨by rw [k1, h1], by rw [k2, h2]⟩
theorem DedV.good {W : Int} {L D : List Raw} {y : Int} (hg : GoodT W L) (h : DedV L y D) : GoodT W D := by
  rcases h with ⟨_, h, _⟩ | ⟨_, h, _⟩
  · rw [h]; exact GoodT.nil hg.wide
  · rw [h]; exact hg.sub (deads_sub L)
theorem DedV.dead {L D : List Raw} {y : Int} (h : DedV L y D) : ∀ d ∈ D, d ∈ (stD L).2 := by
  rcases h with ⟨_, h, _⟩ | ⟨_, h, _⟩
  · intro d hd; rw [h] at hd; cases hd
  · intro d hd; rw [← h]; exact hd
/-- Rules of one's own, with their ports. -/
structure OwnP (w : World) (B : Nat) (v : Value) (qs : List (Raw × Value)) : Prop where
  own : OwnR w B v qs
  prt : ∀ q ∈ qs, Ported w B q.2 q.1.ports ∧ ∀ p ∈ q.1.ports, p.length ≤ maxLen
theorem OwnP.on {w w' : World} {B : Nat} {v : Value} {qs : List (Raw × Value)} (h : OwnP w B v qs) (hb : Below w.heap.size w w') : OwnP w' B v qs := ⟨h.own.on hb, fun q hq => ⟨(h.prt q hq).1.on hb, (h.prt q hq).2⟩⟩
theorem OwnP.grew {w w' : World} {B b : Nat} {v : Value} {qs : List (Raw × Value)} {cs : Array Value} {r : Nat × Nat} (h : OwnP w B v qs) (hg : w.grownBy w' (some b)) (hb : w.heap[b]? = some (.cells cs 72 r)) : OwnP w' B v qs := ⟨h.own.grew hg hb (by decide), fun q hq => ⟨(h.prt q hq).1.grewB hg hb (by decide), (h.prt q hq).2⟩⟩
theorem OwnP.rowV {w : World} {B n c : Nat} {a : Option Addr} {qs : List (Raw × Value)} (h : OwnP w B (.slice a n c) qs) (hn : qs.length = n) : RowV w (.slice a n c) n qs := by
  have := h.own.rowV (fun q hq => ⟨(h.prt q hq).1.txs, (h.prt q hq).2⟩)
  rw [hn] at this
  exact this
theorem PDead_form {w : World} {Bp tb : Nat} {W : Int} {L : List Raw} (h : FTab w Bp tb W L) : Calls Tryz.prog 23 #[.pointer (some ⟨tb, 0, none⟩)] w fun e w' => ∃ (a : Option Addr) (n c : Nat) (y : Int) (qs : List (Raw × Value)), e = .returned (.tuple #[.slice a n c, .int .i64 y]) ∧ qs.length = n ∧ Hid (OwnP w' w.heap.size (.slice a n c) qs) ∧ Hid (DedV L y (qs.map Prod.fst)) ∧ Hid (Below w.heap.size w w') := by
  obtain ⟨v, ps, ht, rfl⟩ := h.ex
  obtain ⟨lo, lc, hv, -⟩ := ht.list.form
  subst hv
  have hg := ht.good
  refine (Dead_any ht rfl).mono ?_
  rintro e w' ⟨hb, ⟨⟨i, r, h1, h2⟩, rfl⟩ | ⟨h1, ao, n, c, qs, rfl, h2, h3, h4, h5⟩⟩
  · exact ⟨none, 0, 0, 3, [], rfl, rfl, ⟨⟨World.ownsRow_nil _ _ _ _, fun q hq => by cases hq⟩, fun q hq => by cases hq⟩, Or.inl ⟨rfl, rfl, i, r, h1, h2⟩, hb⟩
  · refine ⟨ao, n, c, 0, qs, rfl, h3, ⟨h2, fun q hq => ⟨h4 q hq, fun p hp => ?_⟩⟩, Or.inr ⟨rfl, h5, h1⟩, hb⟩
    have hm : q.1 ∈ ps.map Prod.fst := (deads_sub _).subset (by rw [← h5]; exact List.mem_map_of_mem hq)
    have := (errR_small (hg.ok _ hm)).2.2.2 p hp
    unfold maxLen; omega
theorem RDead_form {w : World} {Q rb : Nat} {W : Int} {L : List Raw} (h : DTab w Q rb W L) (hg : GoodT W L) : Calls Tryz.prog 24 #[.pointer (some ⟨rb, 0, none⟩)] w fun e w' => ∃ (a : Option Addr) (n c : Nat) (y : Int) (qs : List (Raw × Value)), e = .returned (.tuple #[.slice a n c, .int .i64 y]) ∧ Hid (RowV w' (.slice a n c) n qs) ∧ Hid (DedV L y (qs.map Prod.fst)) ∧ Hid (Below w.heap.size w w') := by
  obtain ⟨v, ps, hB, hd, rfl⟩ := h.ex
  obtain ⟨lo, lc, hv, -⟩ := hd.own.form
  subst hv
  refine (RDead_any hB hd rfl hg).mono ?_
  rintro e w' ⟨hb, ⟨⟨i, r, h1, h2⟩, rfl⟩ | ⟨h1, ao, n, c, qs, rfl, h2, h3, h4, h5⟩⟩
  · exact ⟨none, 0, 0, 3, [], rfl, ⟨rfl, none, 0, rfl, Or.inl rfl⟩, Or.inl ⟨rfl, rfl, i, r, h1, h2⟩, hb⟩
  · refine ⟨ao, n, c, 0, qs, rfl, ?_, Or.inr ⟨rfl, h5, h1⟩, hb⟩
    have := h2.rowV (fun q hq => (hd.on hb).txs q (h4 q hq))
    rw [h3] at this
    exact this
end Go.Proofs.YtipmlcdnfaobiaaGreat
namespace Go.Proofs.YtipmlcdnfaobiaaGreat
open Go.RowKit

theorem Tryz.infoActV : (Tryz.prog.info? 42).map (fun i => (i.zero, i.size, i.bytes)) = some (some (.agg #[.int .i64 0, .slice none 0 0]), 2, 32) := by kernel_rfl
abbrev flatA (xs : List (Int × List (List UInt8) × Value)) : List Value := xs.flatMap fun x => [.int .i64 x.1, x.2.2]
theorem flatA_len (xs : List (Int × List (List UInt8) × Value)) : (flatA xs).length = xs.length * 2 := by
  induction xs with
  | nil => rfl
  | cons x xs ih =>
    have : flatA (x :: xs) = [.int .i64 x.1, x.2.2] ++ flatA xs := rfl
    rw [this, List.length_append, ih, List.length_cons]
    simp; omega
theorem flatA_get {xs : List (Int × List (List UInt8) × Value)} : ∀ {i : Nat} {x : Int × List (List UInt8) × Value}, xs[i]? = some x → (flatA xs)[i * 2]? = some (.int .i64 x.1) ∧ (flatA xs)[i * 2 + 1]? = some x.2.2 := by
  induction xs with
  | nil => intro i x h; simp at h
  | cons v xs ih =>
    intro i x h
    have hc : flatA (v :: xs) = [.int .i64 v.1, v.2.2] ++ flatA xs := rfl
    cases i with
    | zero =>
      have : v = x := by simpa using h
      subst this
      rw [hc]
      simp
    | succ i =>
      obtain ⟨h0, h1⟩ := ih (i := i) (x := x) (by simpa using h)
      have e : ∀ k, (flatA (v :: xs))[(i + 1) * 2 + k]? = (flatA xs)[i * 2 + k]? := fun k => by
        rw [hc, List.getElem?_append_right (by simp; omega)]
        congr 1
        simp; omega
      exact ⟨by rw [show (i + 1) * 2 = (i + 1) * 2 + 0 from rfl, e 0]; exact h0, by rw [e 1]; exact h1⟩
/-- What was done with some headers. -/
structure BefAt (B : Nat) (v : Value) (xs : List (Int × List (List UInt8) × Value)) (wr : World) : Prop where
  row : wr.ownsRow B 42 2 v xs.length (flatA xs)
  prt : ∀ x ∈ xs, Ported wr 0 x.2.2 x.2.1
theorem BefAt.on {B : Nat} {v : Value} {xs : List (Int × List (List UInt8) × Value)} {w w' : World} (h : BefAt B v xs w) (hb : Below w.heap.size w w') : BefAt B v xs w' := ⟨own_keep1 h.row hb, fun x hx => (h.prt x hx).on hb⟩
theorem BefAt.grew {B b : Nat} {v : Value} {xs : List (Int × List (List UInt8) × Value)} {w w' : World} {cs : Array Value} {r : Nat × Nat} (h : BefAt B v xs w) (hg : w.grownBy w' (some b)) (hb : w.heap[b]? = some (.cells cs 72 r)) : BefAt B v xs w' := by
  refine ⟨⟨h.row.1, ?_⟩, fun x hx => (h.prt x hx).grewB hg hb (by decide)⟩
  rcases h.row.2 with q | ⟨g, cp, cur, e, hB, hh, q⟩
  · exact Or.inl q
  · refine Or.inr ⟨g, cp, cur, e, hB, ?_, q⟩
    rw [hg.block g (lt_of_block hh) (fun e => by injection e with e; exact ne_type hh hb (by decide) e)]
    exact hh
theorem BefAt.cells {B g n c : Nat} {xs : List (Int × List (List UInt8) × Value)} {w : World} {i : Nat} {x : Int × List (List UInt8) × Value} (h : BefAt B (.slice (some ⟨g, 0, none⟩) n c) xs w) (hx : xs[i]? = some x) : w.cell? ⟨g, i * 2, none⟩ = some (.int .i64 x.1) ∧ w.cell? ⟨g, i * 2 + 1, none⟩ = some x.2.2 := by
  obtain ⟨h0, h1⟩ := flatA_get hx
  rcases h.row.2 with ⟨e, _⟩ | ⟨g', cap, cur, e, hB, hh, hn, _, _, ht⟩
  · injection e with e1 _ _
    cases e1
  · injection e with e1 _ _
    injection e1 with e1
    injection e1 with e1 _ _
    subst e1
    have get : ∀ (j : Nat) (u : Value), (flatA xs)[j]? = some u → w.cell? ⟨g, j, none⟩ = some u := fun j u hj => by
      rw [cell_at hh]
      rw [← ht, List.getElem?_take] at hj
      split at hj
      · rw [← Array.getElem?_toList]; exact hj
      · cases hj
    exact ⟨get _ _ h0, get _ _ h1⟩
theorem BefAt.form {B n : Nat} {v : Value} {xs : List (Int × List (List UInt8) × Value)} {w : World} (h : BefAt B v xs w) (hn : xs.length = n) (h0 : 0 < n) : ∃ g c, v = .slice (some ⟨g, 0, none⟩) n c := by
  rcases h.row.2 with ⟨_, q⟩ | ⟨g, cap, cur, e, _⟩
  · omega
  · exact ⟨g, cap, by rw [e, hn]⟩
/-- One header more. -/
theorem BefAt.next {w X : World} {B j bc : Nat} {bo : Option Addr} {xs : List (Int × List (List UInt8) × Value)} {k : Int} {zo : Option Addr} {zn zc : Nat} {zs : List (List UInt8)} (h : BefAt B (.slice bo j bc) xs X) (hl : xs.length = j) (hB : w.heap.size ≤ B) (hBX : B ≤ X.heap.size) (hp : Ported X 0 (.slice zo zn zc) zs) :
    ((X.alloc (aob k (.slice zo zn zc))).alloc (aob k (.slice zo zn zc))).ownsRow B 42 2 (.slice bo j bc) j (flatA xs) ∧
    (∀ (t : Nat) u, ([.int .i64 k, .slice zo zn zc] : List Value)[t]? = some u → ((X.alloc (aob k (.slice zo zn zc))).alloc (aob k (.slice zo zn zc))).cell? ((⟨X.heap.size + 1, 0, none⟩ : Addr).add t) = some u) ∧
    B ≤ ((X.alloc (aob k (.slice zo zn zc))).alloc (aob k (.slice zo zn zc))).heap.size ∧
    ∀ (v8 : Value) (w8 : World), w8.ownsRow B 42 2 v8 (j + 1) (flatA xs ++ [.int .i64 k, .slice zo zn zc]) → ((X.alloc (aob k (.slice zo zn zc))).alloc (aob k (.slice zo zn zc))).grownBy w8 (Value.slice bo j bc).ownBlock → ∃ a8 c8, v8 = .slice a8 (j + 1) c8 ∧ BefAt B (.slice a8 (j + 1) c8) (xs ++ [(k, zs, Value.slice zo zn zc)]) w8 ∧ X.grownBy w8 (Value.slice bo j bc).ownBlock ∧ (∀ b, (Value.slice bo j bc).ownBlock = some b → w.heap.size ≤ b ∧ ∃ cs, X.heap[b]? = some (.cells cs 42 (0, 0))) := by
  have hb1 : Below X.heap.size X ((X.alloc (aob k (.slice zo zn zc))).alloc (aob k (.slice zo zn zc))) := ((Below.refl _ _).alloc (Nat.le_refl _) _).alloc (by simp) _
  have hnew := new_0 (X.alloc (aob k (.slice zo zn zc))) (aob k (.slice zo zn zc))
  rw [show (X.alloc (aob k (.slice zo zn zc))).heap.size = X.heap.size + 1 by simp] at hnew
  have hr := (h.on hb1).row
  rw [hl] at hr
  have hr0 := h.row
  rw [hl] at hr0
  refine ⟨hr, fun t u hu => ?_, Nat.le_trans hBX hb1.size, fun v8 w8 ho hg => ?_⟩
  · rw [addr_add5, Nat.zero_add, cell_at hnew, ← Array.getElem?_toList]
    exact hu
  · obtain ⟨a8, c8, e⟩ := own_form ho
    subst e
    refine ⟨a8, c8, rfl, ⟨?_, fun x hx => ?_⟩, ?_, fun b hb => ?_⟩
    · rw [List.length_append, hl]
      have : flatA (xs ++ [(k, zs, Value.slice zo zn zc)]) = flatA xs ++ [.int .i64 k, .slice zo zn zc] := by simp [flatA]
      rw [this]
      exact ho
    · have hk : ∀ v zs, Ported ((X.alloc (aob k (.slice zo zn zc))).alloc (aob k (.slice zo zn zc))) 0 v zs → Ported w8 0 v zs := fun v zs hv => by
        obtain ⟨ao', cap, e1, e2, q | ⟨b, e3, e4, cs, e5, e6⟩⟩ := hv
        · exact ⟨ao', cap, e1, e2, Or.inl q⟩
        · refine ⟨ao', cap, e1, e2, Or.inr ⟨b, e3, e4, cs, ?_, e6⟩⟩
          rw [hg.block b (lt_of_block e5) (fun e => by
            obtain ⟨_, cs', hc⟩ := own_block1 hr b e.symm
            exact ne_type e5 hc (by decide) rfl)]
          exact e5
      rcases List.mem_append.1 hx with hx | hx
      · exact hk _ _ ((h.prt x hx).on hb1)
      · rw [List.mem_singleton.1 hx]
        exact hk _ _ (hp.on hb1)
    · refine ⟨hg.os.trans hb1.os, hg.tape.trans hb1.tape, hg.output.trans hb1.output, Nat.le_trans hb1.size hg.size, fun b hb hne => ?_⟩
      rw [hg.block b (Nat.lt_of_lt_of_le hb hb1.size) hne]
      exact hb1.block b hb
    · obtain ⟨q1, q2⟩ := own_block1 hr0 b hb
      exact ⟨by omega, q2⟩
end Go.Proofs.YtipmlcdnfaobiaaGreat
