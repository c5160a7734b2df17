/-
  Proved: for every row of rules and every width the law RulesBack answers true (what Print prints is parsed by Parse as the same rules; where Print fails, its text is empty), and leaves its arguments as they were. Conditions: the tables of Go's library and of the program start as the program's text lays them (the card's tie); none on the rules or the width.
  Rules that came in as an argument, opened: a slice of structs with a struct and a slice of texts inside.
  The law RulesBack: what is printed is parsed as the same rules.
  The document's SameRules, of rules that came in and rules that were parsed; the text and the Print of no rule.
  Print, of any rules that came in.
-/
import Derived.Test.YtemennekglebnaaGreatDoorUChkAAnd
import Derived.WalkKit
import Derived.ProofKit
import Derived.OpenShut
import Derived.ShutString
import Derived.Deep.Slices
import Derived.ChangeArms
import Derived.SliceStrings
import Derived.Test.YtemennekglebnaaGreatDoorRows
import Derived.Test.YtemennekglebnaaGreatDoorCards
import Derived.Test.YtemennekglebnaaGreatDoorTie
import Derived.Lay
import Derived.LaidOnce
import Derived.SevenTiedAt
import Derived.LaidSub
import Derived.MakeChecks
namespace Go.Proofs.YtemennekglebnaaGreatDoor
open Go.RowKit
open Wo (Wd)

/-- A rule as it came in. -/
structure Raw where
  prio : Int
  mat : List UInt8
  kind : Int
  ports : List (List UInt8)
def Raw.rl (r : Raw) : Ru.Rl := ⟨r.prio.toNat, r.mat, r.kind.toNat, r.ports⟩
def Raw.ok (width : Int) (r : Raw) : Prop := okRule width r.prio r.mat r.kind r.ports
theorem Raw.okRl {width : Int} {r : Raw} (h : r.ok width) : Ru.OkRl width.toNat r.rl ∧ r.prio = r.rl.prio ∧ r.kind = r.rl.kind := by
  have h1 := h.wide
  have h2 := h.prio
  have h4 := h.len
  have hk : 1 ≤ r.kind ∧ r.kind ≤ 4 := by rcases h.act with ⟨q, _⟩ | ⟨q, _⟩ <;> omega
  refine ⟨⟨?_, h.cube, ?_, ?_⟩, ?_, ?_⟩
  · show r.prio.toNat ≤ _; omega
  · show r.mat.length = _; omega
  · rcases h.act with ⟨q, hp⟩ | ⟨q, hp⟩
    · exact Or.inl ⟨by show r.kind.toNat = 1 ∨ r.kind.toNat = 2; omega, hp⟩
    · exact Or.inr ⟨by show r.kind.toNat = 3 ∨ r.kind.toNat = 4; omega, hp⟩
  · show r.prio = (r.prio.toNat : Int); omega
  · show r.kind = (r.kind.toNat : Int); omega
/-- Rules that came in, for reading. -/
structure RawView (w : World) (g o : Nat) (ps : List (Raw × Value)) : Prop where
  old : g < w.heap.size
  cell : ∀ (i : Nat) (q : Raw × Value), ps[i]? = some q → w.cell? ⟨g, o + i * 4, none⟩ = some (.int .i64 q.1.prio) ∧ w.cell? ⟨g, o + i * 4 + 1, none⟩ = some (.string (tx q.1.mat)) ∧ w.cell? ⟨g, o + i * 4 + 2, none⟩ = some (.int .i64 q.1.kind) ∧ w.cell? ⟨g, o + i * 4 + 3, none⟩ = some q.2
  ports : ∀ q ∈ ps, Txs w q.2 q.1.ports ∧ ∀ p ∈ q.1.ports, p.length ≤ maxLen
theorem RawView.rl {w : World} {g o : Nat} {ps : List (Raw × Value)} {width : Int} (h : RawView w g o ps) (hok : ∀ q ∈ ps, q.1.ok width) : RViewO w g o (ps.map fun q => (q.1.rl, q.2)) := by
  refine ⟨h.old, fun i q hq => ?_, fun q hq => ?_⟩
  · rw [List.getElem?_map, Option.map_eq_some_iff] at hq
    obtain ⟨q0, h0, rfl⟩ := hq
    obtain ⟨c0, c1, c2, c3⟩ := h.cell i q0 h0
    obtain ⟨_, e1, e2⟩ := Raw.okRl (hok q0 (List.mem_of_getElem? h0))
    exact ⟨by rw [c0]; exact congrArg (fun z => some (Value.int .i64 z)) e1, c1, by rw [c2]; exact congrArg (fun z => some (Value.int .i64 z)) e2, c3⟩
  · obtain ⟨q0, h0, rfl⟩ := List.mem_map.1 hq
    exact (h.ports q0 h0).1

/-- What Print answers. -/
def PrintPost (w : World) (width : Int) (ps : List (Raw × Value)) (en : Ending) (w' : World) : Prop :=
  Below w.heap.size w w' ∧ ((∃ i e : Int, e ≠ 0 ∧ en = .returned (.tuple #[.string (tx []), .int .i64 i, .int .i64 e])) ∨
    ((∀ q ∈ ps, q.1.ok width) ∧ (1 ≤ width ∧ width ≤ 128) ∧ (ps.map fun q => q.1.rl).Pairwise (fun a b => Ru.same a b = false) ∧ en = .returned (.tuple #[.string (tx (Ru.printT (ps.map fun q => q.1.rl))), .int .i64 0, .int .i64 0])))

def keyOf (x : Ru.Rl) : Nat × List UInt8 := (x.prio, x.mat)
theorem same_keys {rs : List Ru.Rl} (h : (rs.map keyOf).Nodup) : rs.Pairwise (fun a b => Ru.same a b = false) := by
  have h1 := List.pairwise_map.1 h
  refine h1.imp ?_
  intro a b hab
  refine decide_eq_false (fun q => hab ?_)
  unfold keyOf
  rw [q.1, q.2]

set_option maxRecDepth 20000 in
set_option maxHeartbeats 2000000 in
theorem Print_some {w : World} {g o cap n : Nat} {width : Int} {ps : List (Raw × Value)} (h : RawView w g o ps) (hn : ps.length = n) (h60 : n ≤ 60) (hT : PowTab w) :
    Calls Tryz.prog 13 #[.slice (some ⟨g, o, none⟩) n cap, .int .i64 width] w fun en w' => PrintPost w width ps en w' := by
  have H := hid h
  have HN := hid hn
  have HT := hid hT
  have hg := h.old
  clear h hn hT
  have HW := hid (isWidth_any width)
  by_cases hw : 1 ≤ width ∧ width ≤ 128
  case neg =>
    rw [decide_eq_false hw] at HW
    go_enter Tryz.func13, Tryz.ntmps13
    go_wp2_with fail
    refine (HW.out _).mono ?_
    rintro en w1 ⟨rfl, rfl⟩
    go_wp2
    refine bodyPost_ret (v := .tuple #[.string (tx []), .int .i64 0, .int .i64 1]) (by simp [results, Tryz.results13, go_sem]) rfl ?_
    exact ⟨Below.refl _ _, Or.inl ⟨0, 1, by decide, rfl⟩⟩
  rw [decide_eq_true hw] at HW
  have HWW := hid hw
  clear hw
  have h4096 : ¬ ((4096 : Int) < (n : Int)) := by omega
  go_enter Tryz.func13, Tryz.ntmps13
  go_wp2_with fail
  refine (HW.out _).mono ?_
  rintro en w1 ⟨rfl, hww⟩
  have hw1 := hww.symm
  clear hww
  subst hw1
  go_wp2_with fail
  have HCH := hid (fun (W : World) (hb : Below w.heap.size w W) (q : Raw × Value) (hq : q ∈ ps) => Check_any (width := width) (p := q.1.prio) (k := q.1.kind) (m := q.1.mat) ((H.out.ports q hq).1.below hb) (H.out.ports q hq).2)
  go_loopw [21] (fun i wr => ∃ j : Nat, j ≤ n ∧ i = .int .i64 j ∧ Hid (∀ i q, i < j → ps[i]? = some q → q.1.ok width) ∧ Hid (Below w.heap.size w wr)) (fun i _ => n - (intOf i).toNat)
  case atStart => exact ⟨0, Nat.zero_le _, rfl, fun i q hi => absurd hi (Nat.not_lt_zero i), Below.refl _ _⟩
  case round =>
    obtain ⟨j, hj, rfl, HOK, HB⟩ := hrel
    by_cases hlt : j < n
    · obtain ⟨q, hq⟩ : ∃ q, ps[j]? = some q := ⟨ps[j]'(by rw [HN.out]; exact hlt), List.getElem?_eq_getElem _⟩
      obtain ⟨a0, a1, a2, a3⟩ := H.out.cell j q hq
      have hm := List.mem_of_getElem? hq
      have hp := (H.out.ports q hm).1
      have HQ := hid hq
      obtain ⟨x, u⟩ := q
      have HC1 := hid (fun W hb => HCH.out W hb _ hm)
      simp only at a0 a1 a2 a3 hp HC1
      obtain ⟨ao, s1, rfl, _⟩ := hp
      have k0 := (HB.out.cell (p := ⟨g, o + j * 4, none⟩) (by exact hg)).trans a0
      have k1 := (HB.out.cell (p := ⟨g, o + j * 4 + 1, none⟩) (by exact hg)).trans a1
      have k2 := (HB.out.cell (p := ⟨g, o + j * 4 + 2, none⟩) (by exact hg)).trans a2
      have k3 := (HB.out.cell (p := ⟨g, o + j * 4 + 3, none⟩) (by exact hg)).trans a3
      have hkI : (j : Int) < (n : Int) := by omega
      have hk0 : (0 : Int) ≤ (j : Int) := by omega
      have B0 := hid (show Below w.heap.size w (wr.alloc (rob x.prio (tx x.mat) x.kind (.slice ao x.ports.length s1))) from HB.out.alloc HB.out.size _)
      clear hq a0 a1 a2 a3 hm
      go_wp2_with fail
      refine (HC1.out _ B0.out).mono ?_
      rintro en w2 ⟨e, rfl, he, hb2⟩
      have B2 := hid (B0.out.trans (hb2.mono B0.out.size))
      have HE := hid he
      clear hb2 he
      by_cases h0 : e = 0
      · have HO := hid (HE.out.1 h0)
        subst h0
        go_wp2
        go_roundw
        case rel =>
          refine ⟨j + 1, by omega, by go_num, fun i q hi hq => ?_, B2⟩
          by_cases e : i = j
          · subst e
            rw [HQ.out] at hq
            simp only [Option.some.injEq] at hq
            rw [← hq]; exact HO.out
          · exact HOK.out i q (by omega) hq
        case measure => simp [intOf]; omega
      · go_wp2
        refine bodyPost_ret (v := .tuple #[.string (tx []), .int .i64 j, .int .i64 e]) (by simp [results, Tryz.results13, go_sem]) rfl ?_
        exact ⟨B2.out, Or.inl ⟨j, e, h0, rfl⟩⟩
    · have hkI : ¬ ((j : Int) < (n : Int)) := by omega
      have hmm : ∀ w : World, (Instr.makeMap 65 none).run Tryz.prog w = .ok (.map (some w.heap.size)) (w.alloc (.map #[] 0)) := fun _ => by kernel_rfl
      have HALL := hid (show ∀ q ∈ ps, q.1.ok width from fun q hq => by
        obtain ⟨i, hi, e⟩ := List.mem_iff_getElem.1 hq
        exact HOK.out i q (by have := HN.out; omega) (by rw [List.getElem?_eq_getElem hi, e]))
      have HR := hid (H.out.rl HALL.out)
      obtain ⟨rs, hrs⟩ : ∃ rs, rs = ps.map fun q => q.1.rl := ⟨_, rfl⟩
      obtain ⟨qs, hqs⟩ : ∃ qs, qs = ps.map fun q => (q.1.rl, q.2) := ⟨_, rfl⟩
      have HRQ := hid (show qs.map Prod.fst = rs by rw [hqs, hrs, List.map_map]; rfl)
      have HQL := hid (show qs.length = n by rw [hqs, List.length_map]; exact HN.out)
      have HQO := hid (show ∀ q ∈ qs, Ru.OkRl width.toNat q.1 from fun q hq => by
        rw [hqs] at hq
        obtain ⟨q0, h0, rfl⟩ := List.mem_map.1 hq
        exact (Raw.okRl (HALL.out q0 h0)).1)
      rw [← hqs] at HR
      have HRS := hid hrs
      clear hrs hqs HOK HCH
      obtain ⟨mb, hmb⟩ : ∃ mb, mb = wr.heap.size := ⟨_, rfl⟩
      have hmb0 : w.heap.size ≤ mb := by rw [hmb]; exact HB.out.size
      have K0 := hid (show KeysAt (wr.alloc (.map #[] 0)) mb (((rs.take 0)).map keyOf) by rw [hmb]; exact KeysAt.new wr)
      have B0 := hid (show Below w.heap.size w (wr.alloc (.map #[] 0)) from HB.out.alloc HB.out.size _)
      go_wp2_with fail
      rw [← hmb]
      clear hmb
      go_loopw [37] (fun i w2 => ∃ j : Nat, j ≤ n ∧ i = .int .i64 j ∧ Hid (KeysAt w2 mb ((rs.take j).map keyOf)) ∧ Hid (((rs.take j).map keyOf).Nodup) ∧ Hid (Below w.heap.size w w2)) (fun i _ => n - (intOf i).toNat)
      case atStart => exact ⟨0, Nat.zero_le _, rfl, K0, List.nodup_nil, B0⟩
      case round =>
        obtain ⟨j, hj, rfl, HK, HD, HB2⟩ := hrel
        by_cases hlt : j < n
        · obtain ⟨q, hq⟩ : ∃ q, qs[j]? = some q := ⟨qs[j]'(by rw [HQL.out]; exact hlt), List.getElem?_eq_getElem _⟩
          obtain ⟨a0, a1, a2, a3⟩ := HR.out.cell j q hq
          have hp := HR.out.ports q (List.mem_of_getElem? hq)
          have HO := hid (HQO.out q (List.mem_of_getElem? hq))
          obtain ⟨x, u⟩ := q
          simp only at a0 a1 a2 a3 hp HO
          have HX := hid (show rs[j]? = some x by rw [← HRQ.out, List.getElem?_map, hq]; rfl)
          obtain ⟨ao, s1, rfl, _⟩ := hp
          have k0 := (HB2.out.cell (p := ⟨g, o + j * 4, none⟩) (by exact hg)).trans a0
          have k1 := (HB2.out.cell (p := ⟨g, o + j * 4 + 1, none⟩) (by exact hg)).trans a1
          have k2 := (HB2.out.cell (p := ⟨g, o + j * 4 + 2, none⟩) (by exact hg)).trans a2
          have k3 := (HB2.out.cell (p := ⟨g, o + j * 4 + 3, none⟩) (by exact hg)).trans a3
          have hkI : (j : Int) < (n : Int) := by omega
          have hk0 : (0 : Int) ≤ (j : Int) := by omega
          clear hq a0 a1 a2 a3
          have KA := hid (show KeysAt (wr.alloc (rob x.prio (tx x.mat) x.kind (.slice ao x.ports.length s1))) mb ((rs.take j).map keyOf) from HK.out.same (heap_old _ _ HK.out.lt))
          have BA := hid (show Below w.heap.size w (wr.alloc (rob x.prio (tx x.mat) x.kind (.slice ao x.ports.length s1))) from HB2.out.alloc HB2.out.size _)
          have hml : x.mat.length ≤ 1048576 := by have := (Cub.Cu.right_all HO.out.cube).2.2; omega
          have HAD := hid (uadd KA.out x (.slice ao x.ports.length s1) HO.out.prio hml (by rw [List.length_map, List.length_take]; omega))
          have HTK := hid (show (rs.take (j + 1)).map keyOf = (rs.take j).map keyOf ++ [(x.prio, x.mat)] by
            rw [List.take_add_one, HX.out, List.map_append]; rfl)
          obtain ⟨ks, hks⟩ : ∃ ks, ks = (rs.take j).map keyOf := ⟨_, rfl⟩
          rw [← hks] at HAD HTK HD
          clear hks
          by_cases hin : (x.prio, x.mat) ∈ ks
          · rw [decide_eq_false (fun q => q hin)] at HAD
            clear hin
            go_wp2_with fail
            refine (HAD.out).mono ?_
            rintro en w3 ⟨rfl, _, hg3⟩
            have B3 := hid (below_grow BA.out hg3 BA.out.size hmb0)
            clear hg3
            go_wp2
            refine bodyPost_ret (v := .tuple #[.string (tx []), .int .i64 j, .int .i64 52]) (by simp [results, Tryz.results13, go_sem]) rfl ?_
            exact ⟨B3.out, Or.inl ⟨j, 52, by decide, rfl⟩⟩
          · rw [decide_eq_true hin] at HAD
            have HIN := hid hin
            clear hin
            go_wp2_with fail
            refine (HAD.out).mono ?_
            rintro en w3 ⟨rfl, hk3, hg3⟩
            have B3 := hid (below_grow BA.out hg3 BA.out.size hmb0)
            have K3 := hid (hk3 HIN.out)
            clear hg3 hk3
            go_wp2
            go_roundw
            case rel =>
              refine ⟨j + 1, by omega, by go_num, by show KeysAt _ _ _; rw [HTK.out]; exact K3.out, ?_, B3⟩
              show List.Nodup _
              rw [HTK.out]
              refine List.nodup_append.2 ⟨HD.out, by simp, fun a ha b hb e => ?_⟩
              rw [List.mem_singleton.1 hb] at e
              exact HIN.out (e ▸ ha)
            case measure => simp [intOf]; omega
        · have hkI : ¬ ((j : Int) < (n : Int)) := by omega
          have HE := hid (show rs.take j = rs from List.take_of_length_le (by rw [← HRQ.out, List.length_map, HQL.out]; omega))
          rw [HE.out] at HD
          have HTX := hid (text_some (cap := cap) (width := width.toNat) (w := wr) (g := g) (o := o) (n := n) (ps := qs)
            ⟨Nat.lt_of_lt_of_le hg HB2.out.size, fun i q hq => by
              obtain ⟨c0, c1, c2, c3⟩ := HR.out.cell i q hq
              exact ⟨(HB2.out.cell (by exact hg)).trans c0, (HB2.out.cell (by exact hg)).trans c1, (HB2.out.cell (by exact hg)).trans c2, (HB2.out.cell (by exact hg)).trans c3⟩, fun q hq => (HR.out.ports q hq).below HB2.out⟩ HQL.out (by omega) HQO.out (HT.out.below HB2.out))
          rw [HRQ.out] at HTX
          go_wp2_with fail
          refine (HTX.out).mono ?_
          rintro en w3 ⟨rfl, hb3⟩
          have B3 := hid (HB2.out.trans (hb3.mono HB2.out.size))
          clear hb3
          go_wp2
          refine bodyPost_ret (v := .tuple #[.string (tx (Ru.printT rs)), .int .i64 0, .int .i64 0]) (by simp [results, Tryz.results13, go_sem]) rfl ?_
          refine ⟨B3.out, Or.inr ⟨HALL.out, HWW.out, ?_, ?_⟩⟩
          · rw [← HRS.out]; exact same_keys HD.out
          · rw [← HRS.out]
end Go.Proofs.YtemennekglebnaaGreatDoor
namespace Go.Proofs.YtemennekglebnaaGreatDoor
open Go.RowKit
open Wo (Wd)

set_option maxRecDepth 20000 in
set_option maxHeartbeats 2000000 in
theorem SameRules_o {w : World} {g1 o g2 : Nat} {ps1 ps2 : List (Ru.Rl × Value)} (c1 c2 n : Nat) (h1 : RViewO w g1 o ps1) (h64 : ∀ q ∈ ps1, q.1.ports.length ≤ maxLen) (h2 : RView w g2 ps2) (hl1 : ps1.length = n) (hl2 : ps2.length = n) (he : ps1.map Prod.fst = ps2.map Prod.fst) (hn : n ≤ 1048576) :
    Calls Tryz.prog 10 #[.slice (some ⟨g1, o, none⟩) n c1, .slice (some ⟨g2, 0, none⟩) n c2] w fun e w' => e = .returned (.bool true) ∧ Below w.heap.size w w' := by
  have H1 := hid h1
  have H2 := hid h2
  have H64 := hid h64
  have HL1 := hid hl1
  have HL2 := hid hl2
  have HE := hid he
  have ho1 := h1.old
  have ho2 := h2.old
  clear h1 h2 hl1 hl2 he h64
  have hne : ((n : Int) != (n : Int)) = false := by simp
  go_enter Tryz.func10, Tryz.ntmps10
  go_wp2_with fail
  go_loopw [5] (fun i wr => ∃ j : Nat, j ≤ n ∧ i = .int .i64 j ∧ Hid (Below w.heap.size w wr)) (fun i _ => n - (intOf i).toNat)
  case atStart => exact ⟨0, Nat.zero_le _, rfl, Below.refl _ _⟩
  case round =>
    obtain ⟨j, hj, rfl, HB⟩ := hrel
    by_cases hlt : j < n
    · obtain ⟨q1, hq1⟩ : ∃ q, ps1[j]? = some q := ⟨ps1[j]'(by rw [HL1.out]; exact hlt), List.getElem?_eq_getElem _⟩
      obtain ⟨q2, hq2⟩ : ∃ q, ps2[j]? = some q := ⟨ps2[j]'(by rw [HL2.out]; exact hlt), List.getElem?_eq_getElem _⟩
      have hq : q1.1 = q2.1 := by
        have := congrArg (fun l => l[j]?) HE.out
        simp only [List.getElem?_map, hq1, hq2, Option.map_some, Option.some.injEq] at this
        exact this
      obtain ⟨a0, a1, a2, a3⟩ := H1.out.cell j q1 hq1
      obtain ⟨b0, b1, b2, b3⟩ := H2.out.cell j q2 hq2
      have hp1 := And.intro (H1.out.ports q1 (List.mem_of_getElem? hq1)) (H64.out q1 (List.mem_of_getElem? hq1))
      have hp2 := H2.out.ports q2 (List.mem_of_getElem? hq2)
      rw [← hq] at b0 b1 b2 hp2
      obtain ⟨x, u1⟩ := q1
      obtain ⟨y, u2⟩ := q2
      simp only at a0 a1 a2 a3 b0 b1 b2 b3 hp1 hp2 hq
      have k0 := (HB.out.cell (p := ⟨g1, o + j * 4, none⟩) (by exact ho1)).trans a0
      have k1 := (HB.out.cell (p := ⟨g1, o + j * 4 + 1, none⟩) (by exact ho1)).trans a1
      have k2 := (HB.out.cell (p := ⟨g1, o + j * 4 + 2, none⟩) (by exact ho1)).trans a2
      have k3 := (HB.out.cell (p := ⟨g1, o + j * 4 + 3, none⟩) (by exact ho1)).trans a3
      have m0 := (HB.out.cell (p := ⟨g2, j * 4, none⟩) (by exact ho2)).trans b0
      have m1 := (HB.out.cell (p := ⟨g2, j * 4 + 1, none⟩) (by exact ho2)).trans b1
      have m2 := (HB.out.cell (p := ⟨g2, j * 4 + 2, none⟩) (by exact ho2)).trans b2
      have m3 := (HB.out.cell (p := ⟨g2, j * 4 + 3, none⟩) (by exact ho2)).trans b3
      have HS := hid (fun (w' : World) (hb : Below w.heap.size w w') => Same_acts (k := x.kind) (hp1.1.below hb) (hp2.1.below hb) hp1.2)
      obtain ⟨o1, s1, rfl, _⟩ := hp1.1
      obtain ⟨o2, s2, rfl, _⟩ := hp2.1
      have HSS : Hid (∀ W : World, Below w.heap.size w W → W.cell? ⟨g1, o + j * 4, none⟩ = some (.int .i64 x.prio) ∧ W.cell? ⟨g1, o + j * 4 + 1, none⟩ = some (.string (tx x.mat)) ∧ W.cell? ⟨g1, o + j * 4 + 2, none⟩ = some (.int .i64 x.kind) ∧ W.cell? ⟨g1, o + j * 4 + 3, none⟩ = some (.slice o1 x.ports.length s1) ∧ W.cell? ⟨g2, j * 4, none⟩ = some (.int .i64 x.prio) ∧ W.cell? ⟨g2, j * 4 + 1, none⟩ = some (.string (tx x.mat)) ∧ W.cell? ⟨g2, j * 4 + 2, none⟩ = some (.int .i64 x.kind) ∧ W.cell? ⟨g2, j * 4 + 3, none⟩ = some (.slice o2 x.ports.length s2)) := by
        intro W hW
        exact ⟨(hW.cell (p := ⟨g1, o + j * 4, none⟩) (by exact ho1)).trans a0, (hW.cell (p := ⟨g1, o + j * 4 + 1, none⟩) (by exact ho1)).trans a1, (hW.cell (p := ⟨g1, o + j * 4 + 2, none⟩) (by exact ho1)).trans a2, (hW.cell (p := ⟨g1, o + j * 4 + 3, none⟩) (by exact ho1)).trans a3,
          (hW.cell (p := ⟨g2, j * 4, none⟩) (by exact ho2)).trans b0, (hW.cell (p := ⟨g2, j * 4 + 1, none⟩) (by exact ho2)).trans b1, (hW.cell (p := ⟨g2, j * 4 + 2, none⟩) (by exact ho2)).trans b2, (hW.cell (p := ⟨g2, j * 4 + 3, none⟩) (by exact ho2)).trans b3⟩
      have hkI : (j : Int) < (n : Int) := by omega
      have hk0 : (0 : Int) ≤ (j : Int) := by omega
      have e1 : ((x.prio : Int) == (x.prio : Int)) = true := by simp
      have e2 : (x.mat == x.mat) = true := by simp
      clear hq1 hq2 hq a0 a1 a2 a3 b0 b1 b2 b3 hp1 hp2 k0 k1 k2 k3 m0 m1 m2 m3
      go_wp2_with fail
      go_region_held2 (fun W => W.cell? ⟨g1, o + j * 4, none⟩ = some (.int .i64 x.prio) ∧ W.cell? ⟨g1, o + j * 4 + 1, none⟩ = some (.string (tx x.mat)) ∧ W.cell? ⟨g1, o + j * 4 + 2, none⟩ = some (.int .i64 x.kind) ∧ W.cell? ⟨g1, o + j * 4 + 3, none⟩ = some (.slice o1 x.ports.length s1) ∧ W.cell? ⟨g2, j * 4, none⟩ = some (.int .i64 x.prio) ∧ W.cell? ⟨g2, j * 4 + 1, none⟩ = some (.string (tx x.mat)) ∧ W.cell? ⟨g2, j * 4 + 2, none⟩ = some (.int .i64 x.kind) ∧ W.cell? ⟨g2, j * 4 + 3, none⟩ = some (.slice o2 x.ports.length s2)) (first | exact hS2 | exact HSS.out _ HB.out.drew | exact HSS.out _ HB.out) (first | (go_at_call 25; refine (HS.out _ ?_).mono ?_; exact HB.out.drew; rintro en w2 ⟨rfl, hb2⟩; have B2 := hid (HB.out.drew.trans (hb2.mono HB.out.drew.size)); have hS2 := HSS.out w2 B2.out))
      go_wp2
      go_roundw
      case rel => exact ⟨j + 1, by omega, by go_num, B2⟩
      case measure => simp [intOf]; omega
    · have hkI : ¬ ((j : Int) < (n : Int)) := by omega
      go_wp2
      go_ret
      exact ⟨rfl, HB.out⟩

set_option maxHeartbeats 1000000 in
theorem text_none (ao : Option Addr) (cap : Nat) (w : World) : Calls Tryz.prog 29 #[.slice ao 0 cap] w fun en w' => en = .returned (.string (tx [])) ∧ Below w.heap.size w w' := by
  have hf := hid (Lib.fresh_isBuilder 101 5 w)
  go_enter Tryz.func29, Tryz.ntmps29
  go_wp2_with fail
  refine wp_loop_rounds 1 ?_
  rw [rounds_succ]
  go_wp2_with fail
  refine (String_any w.heap.size w.heap.size [] _ hf.out (by simp)).mono ?_
  rintro en w1 ⟨rfl, hb1⟩
  go_wp2
  go_ret
  exact ⟨rfl, ((Below.refl _ _).alloc (Nat.le_refl _) _).trans hb1⟩

set_option maxRecDepth 20000 in
set_option maxHeartbeats 2000000 in
theorem Print_none (ao : Option Addr) (cap : Nat) (width : Int) (w : World) :
    Calls Tryz.prog 13 #[.slice ao 0 cap, .int .i64 width] w fun en w' => PrintPost w width [] en w' := by
  have HW := hid (isWidth_any width)
  by_cases hw : 1 ≤ width ∧ width ≤ 128
  case neg =>
    rw [decide_eq_false hw] at HW
    go_enter Tryz.func13, Tryz.ntmps13
    go_wp2_with fail
    refine (HW.out _).mono ?_
    rintro en w1 ⟨rfl, rfl⟩
    go_wp2
    refine bodyPost_ret (v := .tuple #[.string (tx []), .int .i64 0, .int .i64 1]) (by simp [results, Tryz.results13, go_sem]) rfl ?_
    exact ⟨Below.refl _ _, Or.inl ⟨0, 1, by decide, rfl⟩⟩
  rw [decide_eq_true hw] at HW
  have HWW := hid hw
  clear hw
  have hmm : ∀ w : World, (Instr.makeMap 65 none).run Tryz.prog w = .ok (.map (some w.heap.size)) (w.alloc (.map #[] 0)) := fun _ => by kernel_rfl
  go_enter Tryz.func13, Tryz.ntmps13
  go_wp2_with fail
  refine (HW.out _).mono ?_
  rintro en w1 ⟨rfl, hww⟩
  have hw1 := hww.symm
  clear hww
  subst hw1
  go_wp2_with fail
  refine wp_loop_rounds 1 ?_
  rw [rounds_succ]
  go_wp2_with fail
  refine wp_loop_rounds 1 ?_
  rw [rounds_succ]
  go_wp2_with fail
  refine (text_none ao cap _).mono ?_
  rintro en w3 ⟨rfl, hb3⟩
  have B3 := hid (show Below w.heap.size w w3 from ((Below.refl _ _).alloc (Nat.le_refl _) _).trans (hb3.mono (by simp)))
  clear hb3
  go_wp2
  refine bodyPost_ret (v := .tuple #[.string (tx []), .int .i64 0, .int .i64 0]) (by simp [results, Tryz.results13, go_sem]) rfl ?_
  exact ⟨B3.out, Or.inr ⟨fun q hq => absurd hq (by simp), HWW.out, List.Pairwise.nil, rfl⟩⟩
end Go.Proofs.YtemennekglebnaaGreatDoor
namespace Go.Proofs.YtemennekglebnaaGreatDoor
open Go.RowKit
open Wo (Wd)

/-- Rules that came in. -/
structure RawIn (w : World) (ao : Option Addr) (ps : List (Raw × Value)) : Prop where
  at_ : ps = [] ∨ ∃ g o, ao = some ⟨g, o, none⟩ ∧ RawView w g o ps
theorem RawIn.take {w : World} {ao : Option Addr} {ps : List (Raw × Value)} (h : RawIn w ao ps) (k : Nat) : RawIn w ao (ps.take k) := by
  rcases h.at_ with rfl | ⟨g, o, e, hv⟩
  · exact ⟨Or.inl (by simp)⟩
  · refine ⟨Or.inr ⟨g, o, e, hv.old, fun i q hq => hv.cell i q ?_, fun q hq => hv.ports q (List.mem_of_mem_take hq)⟩⟩
    rw [List.getElem?_take] at hq
    split at hq
    · exact hq
    · cases hq
theorem Print_any {w : World} {ao : Option Addr} {ps : List (Raw × Value)} (h : RawIn w ao ps) (cap : Nat) (width : Int) (h60 : ps.length ≤ 60) (hT : PowTab w) :
    Calls Tryz.prog 13 #[.slice ao ps.length cap, .int .i64 width] w fun en w' => PrintPost w width ps en w' := by
  rcases h.at_ with rfl | ⟨g, o, rfl, hv⟩
  · exact Print_none ao cap width w
  · exact Print_some hv rfl h60 hT
theorem SameRules_raw {w w' : World} {ao : Option Addr} {ps : List (Raw × Value)} (h : RawIn w ao ps) (hb : Below w.heap.size w w') (cap : Nat) {width : Int} (hok : ∀ q ∈ ps, q.1.ok width) (h60 : ps.length ≤ 60) {B : Nat} {v : Value} {qs : List (Ru.Rl × Value)} (hR : RsAt w' B v qs) (he : qs.map Prod.fst = ps.map fun q => q.1.rl) :
    Calls Tryz.prog 10 #[.slice ao ps.length cap, v] w' fun e w'' => e = .returned (.bool true) ∧ Below w'.heap.size w' w'' := by
  have hlen : qs.length = ps.length := by have := congrArg List.length he; simpa using this
  have h64 : ∀ q ∈ ps, q.1.ports.length ≤ 64 := fun q hq => by
    rcases (hok q hq).act with ⟨_, e⟩ | ⟨_, e⟩
    · rw [e]; simp
    · exact e.2.1
  by_cases h0 : 0 < ps.length
  · rcases h.at_ with rfl | ⟨g, o, rfl, hv⟩
    · simp at h0
    · have hr := hv.rl hok
      have hg := hv.old
      have hr' : RViewO w' g o (ps.map fun q => (q.1.rl, q.2)) := ⟨Nat.lt_of_lt_of_le hg hb.size, fun i q hq => by
        obtain ⟨c0, c1, c2, c3⟩ := hr.cell i q hq
        exact ⟨(hb.cell (by exact hg)).trans c0, (hb.cell (by exact hg)).trans c1, (hb.cell (by exact hg)).trans c2, (hb.cell (by exact hg)).trans c3⟩, fun q hq => (hr.ports q hq).below hb⟩
      obtain ⟨g2, c2, rfl, r2⟩ := rs_view hR (by omega) (fun q hq => by
        have : q.1 ∈ qs.map Prod.fst := List.mem_map_of_mem hq
        rw [he] at this
        obtain ⟨q0, h0, e0⟩ := List.mem_map.1 this
        rw [← e0]; exact h64 q0 h0)
      rw [hlen]
      exact SameRules_o cap c2 ps.length hr' (fun q hq => by
        obtain ⟨q0, h0, rfl⟩ := List.mem_map.1 hq
        have := h64 q0 h0
        show q0.1.ports.length ≤ _
        unfold maxLen; omega) r2 (by simp) hlen (by rw [he, List.map_map]; rfl) (by omega)
  · obtain ⟨a2, c2, rfl⟩ := hR.form
    rw [hlen, show ps.length = 0 by omega]
    exact SameRules_none ao a2 cap c2 w'

set_option maxHeartbeats 400000 in
theorem few_any (ao : Option Addr) (len cap : Nat) (w : World) (hc : len ≤ cap) (ha : len = 0 ∨ ∃ g o, ao = some ⟨g, o, none⟩) : Calls Tryz.prog 12 #[.slice ao len cap] w fun e w' => e = .returned (.slice ao (min len 60) cap) ∧ w' = w := by
  by_cases h : 60 < len
  · obtain ⟨g, o, rfl⟩ : ∃ g o, ao = some ⟨g, o, none⟩ := by rcases ha with h0 | h0; omega; exact h0
    rw [show min len 60 = 60 by omega]
    have hI : (60 : Int) < (len : Int) := by omega
    have hI2 : (60 : Int) ≤ (cap : Int) := by omega
    go_enter Tryz.func12, Tryz.ntmps12
    go_wp2
    go_ret
    exact ⟨rfl, rfl⟩
  · rw [show min len 60 = len by omega]
    have hI : ¬ ((60 : Int) < (len : Int)) := by omega
    go_enter Tryz.func12, Tryz.ntmps12
    go_wp2
    go_ret
    exact ⟨rfl, rfl⟩

set_option maxRecDepth 20000 in
set_option maxHeartbeats 2000000 in
theorem rback_at {w : World} {ao : Option Addr} {len cap n : Nat} {ps : List (Raw × Value)} {width : Int} (hF : ∀ w', Calls Tryz.prog 12 #[.slice ao len cap] w' fun e w'' => e = .returned (.slice ao n cap) ∧ w'' = w') (h : RawIn w ao ps) (hn : ps.length = n) (h60 : n ≤ 60) (hT : PowTab w) :
    Calls Tryz.prog 4 #[.slice ao len cap, .int .i64 width] w fun e w' => e = .returned (.bool true) ∧ Below w.heap.size w w' := by
  have HF := hid hF
  have HR := hid h
  have HP := hid (Print_any h cap width (by omega) hT)
  rw [hn] at HP
  have HN := hid hn
  clear hF h hn hT
  go_enter Tryz.func4, Tryz.ntmps4
  go_wp2_with fail
  refine (HF.out _).mono ?_
  rintro en w1 ⟨rfl, hww⟩
  have hw1 := hww.symm
  clear hww
  subst hw1
  go_wp2_with fail
  refine (HP.out).mono ?_
  rintro en w2 ⟨hb2, ⟨i, e, he, rfl⟩ | ⟨hok, hw, hk, rfl⟩⟩
  · have B2 := hid hb2
    clear hb2
    go_wp2_with (first | (go_at_call 11; refine (ualive _).mono ?_; rintro e w9 ⟨rfl, hb9⟩))
    go_ret
    exact ⟨rfl, below_two B2.out hb9⟩
  · have B2 := hid hb2
    obtain ⟨rs, hrs⟩ : ∃ rs, rs = ps.map fun q => q.1.rl := ⟨_, rfl⟩
    have HRS := hid hrs
    have HOK := hid hok
    have hrl : ∀ x ∈ rs, Ru.OkRl width.toNat x := fun x hx => by
      rw [hrs] at hx
      obtain ⟨q0, h0, rfl⟩ := List.mem_map.1 hx
      exact (Raw.okRl (hok q0 h0)).1
    have hrn : rs.length = n := by rw [hrs, List.length_map]; exact HN.out
    rw [← hrs] at hk ⊢
    have hpl := printT_len rs hrl
    have HPR := hid (Ru.prs_back hw hrl hk (by omega))
    have HPA := hid (fun w' => Parse_any (Ru.printT rs) width w' (by rw [hrn] at hpl; omega))
    unfold ParsePost at HPA
    rw [HPR.out] at HPA
    clear hb2 hrs hok hrl hpl hk hw
    go_wp2_with fail
    refine (HPA.out _).mono ?_
    rintro en w3 ⟨hb3, ⟨f, hf, _⟩ | ⟨v3, qs, hr, rfl, hR3⟩⟩
    · cases hf
    · have B3 := hid (below_two B2.out hb3)
      have HE := hid (show qs.map Prod.fst = ps.map fun q => q.1.rl by injection hr with hr; rw [← hr]; exact HRS.out)
      have HS := hid (SameRules_raw HR.out B3.out cap HOK.out (by rw [HN.out]; omega) hR3 HE.out)
      rw [HN.out] at HS
      clear hb3 hr hR3
      go_wp2_with fail
      refine (HS.out).mono ?_
      rintro en w4 ⟨rfl, hb4⟩
      have B4 := hid (below_two B3.out hb4)
      clear hb4
      go_wp2_with (first | (go_at_call 11; refine (ualive _).mono ?_; rintro e w9 ⟨rfl, hb9⟩))
      go_ret
      exact ⟨rfl, below_two B4.out hb9⟩
theorem rback_any {w : World} {ao : Option Addr} {len cap : Nat} {ps : List (Raw × Value)} {width : Int} (h : RawIn w ao ps) (hl : ps.length = len) (hc : len ≤ cap) (hT : PowTab w) :
    Calls Tryz.prog 4 #[.slice ao len cap, .int .i64 width] w fun e w' => e = .returned (.bool true) ∧ Below w.heap.size w w' :=
  rback_at (n := min len 60) (fun w' => few_any ao len cap w' hc (by
    rcases h.at_ with rfl | ⟨g, o, e, _⟩
    · exact Or.inl (by simpa using hl.symm)
    · exact Or.inr ⟨g, o, e⟩)) (h.take 60) (by rw [List.length_take, hl]; omega) (by omega) hT
end Go.Proofs.YtemennekglebnaaGreatDoor
namespace Go.Proofs.YtemennekglebnaaGreatDoor
open Go.ChangeShapes Go.WideShapes Go.ChangeAt Go.RowKit
open Wo (Wd)

theorem struct_of {P : Program} {t : TypeId} {l : List (TypeId × Nat)} (h : (match P.underlying t with | some (.struct fs) => decide (fs.toList.map (fun f => (f.type, f.offset)) = l) | _ => false) = true) : ∃ fs, P.underlying t = some (.struct fs) ∧ fs.toList.map (fun f => (f.type, f.offset)) = l := by
  split at h
  · rename_i fs e
    exact ⟨fs, e, of_decide_eq_true h⟩
  · cases h
theorem field_of {fs : Array Field} {l : List (TypeId × Nat)} (h : fs.toList.map (fun f => (f.type, f.offset)) = l) {i : Nat} {ty : TypeId} {off : Nat} (hi : l[i]? = some (ty, off)) : ∃ f, fs[i]? = some f ∧ f.type = ty ∧ f.offset = off := by
  rw [← h, List.getElem?_map, Option.map_eq_some_iff] at hi
  obtain ⟨f, hf, e⟩ := hi
  simp only [Prod.mk.injEq] at e
  exact ⟨f, by simpa using hf, e.1, e.2⟩

section
variable {H : Type} {enc : TypeId × Value → H} {w : World} {base : Nat} {spare : Nat → Bool} {held : Bool}

set_option maxRecDepth 100000 in
theorem open_rule {fuel : Nat} {cs : List Value} {x : DataW H × List MemPlace} (h : DataW.trod enc Tryz.prog w base spare held fuel 41 cs = some x) :
    ∃ (p : Int) (m : ByteArray) (k : Int) (v : Value) (n : Nat) (y : DataW H × List MemPlace), cs = [.int .i64 p, .string m, .int .i64 k, v] ∧ m.size ≤ maxLen ∧ DataW.trod enc Tryz.prog w base spare held n 37 [v] = some y := by
  obtain ⟨fs, hfs, hl⟩ := struct_of (P := Tryz.prog) (t := 41) (l := [(3, 0), (9, 1), (39, 2)]) (by kernel_rfl)
  obtain ⟨gs, hgs, hm⟩ := struct_of (P := Tryz.prog) (t := 39) (l := [(36, 0), (37, 1)]) (by kernel_rfl)
  obtain ⟨xs, n, _, _, hlen, hxl, hf⟩ := DataW.trod_struct hfs h
  have hc : Tryz.prog.cellsOf 41 = 4 := by kernel_rfl
  rw [hc] at hlen
  have hsz : fs.size = 3 := by have := congrArg List.length hl; simpa using this
  match cs, hlen with
  | [c0, c1, c2, c3], _ =>
    obtain ⟨f0, e0, t0, o0⟩ := field_of hl (i := 0) rfl
    obtain ⟨f1, e1, t1, o1⟩ := field_of hl (i := 1) rfl
    obtain ⟨f2, e2, t2, o2⟩ := field_of hl (i := 2) rfl
    have g0 := hf 0 f0 e0
    have g1 := hf 1 f1 e1
    have g2 := hf 2 f2 e2
    rw [t0, o0, show Tryz.prog.cellsOf 3 = 1 by kernel_rfl, List.getElem?_eq_getElem (show 0 < xs.length by omega)] at g0
    rw [t1, o1, show Tryz.prog.cellsOf 9 = 1 by kernel_rfl, List.getElem?_eq_getElem (show 1 < xs.length by omega)] at g1
    rw [t2, o2, show Tryz.prog.cellsOf 39 = 2 by kernel_rfl, List.getElem?_eq_getElem (show 2 < xs.length by omega)] at g2
    obtain ⟨p, hp, _, _⟩ := DataW.trod_int Tryz.underlying3 g0
    obtain ⟨m, hm1, _, hms⟩ := DataW.trod_string Tryz.underlying9 g1
    obtain ⟨ys, n2, _, _, _, hyl, hg⟩ := DataW.trod_struct hgs g2
    have hsz2 : gs.size = 2 := by have := congrArg List.length hm; simpa using this
    obtain ⟨k0, d0, u0, q0⟩ := field_of hm (i := 0) rfl
    obtain ⟨k1, d1, u1, q1⟩ := field_of hm (i := 1) rfl
    have r0 := hg 0 k0 d0
    have r1 := hg 1 k1 d1
    rw [u0, q0, show Tryz.prog.cellsOf 36 = 1 by kernel_rfl, List.getElem?_eq_getElem (show 0 < ys.length by omega)] at r0
    rw [u1, q1, show Tryz.prog.cellsOf 37 = 1 by kernel_rfl, List.getElem?_eq_getElem (show 1 < ys.length by omega)] at r1
    obtain ⟨k, hk, _, _⟩ := DataW.trod_int (k := .i64) (by kernel_rfl) r0
    simp at hp hm1 hk
    subst hp hm1 hk
    exact ⟨p, m, k, c3, n2, _, rfl, hms, by simpa using r1⟩

theorem addr_add5 (g o i : Nat) : (⟨g, o, none⟩ : Addr).add i = ⟨g, o + i, none⟩ := by
  unfold Addr.add; split <;> simp_all
theorem addr_of5 {w : World} {a : Addr} {v : Value} (h : w.cell? (a.add 0) = some v) : (∃ g o, a = ⟨g, o, none⟩) ∧ a.block < w.heap.size := by
  have e : a.add 0 = a := by unfold Addr.add; simp
  rw [e] at h
  obtain ⟨g, o, sp⟩ := a
  have hlt : g < w.heap.size := World.block_lt_of_cell? w _ h
  refine ⟨?_, hlt⟩
  cases sp with
  | none => exact ⟨g, o, rfl⟩
  | some s =>
    exfalso
    unfold World.cell? at h
    simp only [Option.isSome_some, if_true] at h
    split at h <;> cases h

/-- Texts that came in. -/
theorem open_texts {fuel : Nat} {v : Value} {x : DataW H × List MemPlace} (h : DataW.trod enc Tryz.prog w base (fun _ => true) held fuel 37 [v] = some x) : ∃ ps : List (List UInt8), Txs w v ps ∧ ∀ p ∈ ps, p.length ≤ maxLen := by
  rcases open_strings Tryz.underlying37 Tryz.underlying9 (by kernel_rfl) h with ⟨hcs, _⟩ | ⟨a, len, cap, ss, hcs, _, hl, hm, hz, _, hcell, hws⟩
  · simp only [List.cons.injEq, and_true] at hcs
    exact ⟨[], by rw [hcs]; exact Txs.nil _ _ _, fun p hp => absurd hp (by simp)⟩
  · simp only [List.cons.injEq, and_true] at hcs
    simp only [if_true] at hz
    refine ⟨(ss.take len).map (fun s => s.data.toList), ?_, fun p hp => ?_⟩
    · have hlen : ((ss.take len).map (fun s => s.data.toList)).length = len := by rw [List.length_map, List.length_take]; omega
      refine ⟨some a, cap, by rw [hlen, hcs], ?_⟩
      by_cases h0 : len = 0
      · exact Or.inl (by rw [h0]; simp)
      · obtain ⟨⟨g, o, rfl⟩, hb⟩ := addr_of5 (hcell 0 (by omega))
        refine Or.inr ⟨g, o, rfl, hb, fun i hi => ?_⟩
        rw [hlen] at hi
        have := hcell i (by omega)
        rw [addr_add5] at this
        rw [this]
        have hi2 : i < ss.length := by omega
        simp [List.getD_eq_getElem?_getD, List.getElem?_map, hi, List.getElem?_eq_getElem hi2]
    · obtain ⟨s, hs, rfl⟩ := List.mem_map.1 hp
      have := hws s (List.mem_of_mem_take hs)
      rw [list_size]; exact this

/-- Rules that came in. -/
theorem open_rules {fuel : Nat} {ao : Option Addr} {len cap : Nat} {x : DataW H × List MemPlace} (h : DataW.trod enc Tryz.prog w base (fun _ => true) held fuel 22 [.slice ao len cap] = some x) : ∃ ps : List (Raw × Value), RawIn w ao ps ∧ ps.length = len ∧ len ≤ cap := by
  rcases Go.Deep.open_slice (e := 41) Tryz.underlying22 h with ⟨hcs, _⟩ | ⟨a, len', cap', m, n, D, Pl, hcs, _, hl, hm, hmm, _, hx⟩
  · simp at hcs
    exact ⟨[], ⟨Or.inl rfl⟩, by rw [hcs.2.1]; rfl, by omega⟩
  · simp at hcs
    obtain ⟨rfl, rfl, rfl⟩ := hcs
    simp only [if_true] at hmm
    have hc : Tryz.prog.cellsOf 41 = 4 := by kernel_rfl
    by_cases h0 : len = 0
    · exact ⟨[], ⟨Or.inl rfl⟩, by rw [h0]; rfl, hl⟩
    have each : ∀ i, i < len → ∃ q : Raw × Value, w.cell? (a.add (i * 4)) = some (.int .i64 q.1.prio) ∧ w.cell? ((a.add (i * 4)).add 1) = some (.string (tx q.1.mat)) ∧ w.cell? ((a.add (i * 4)).add 2) = some (.int .i64 q.1.kind) ∧ w.cell? ((a.add (i * 4)).add 3) = some q.2 ∧ Txs w q.2 q.1.ports ∧ ∀ p ∈ q.1.ports, p.length ≤ maxLen := by
      intro i hi
      obtain ⟨cs', h1, h2⟩ := hx i (by omega)
      rw [hc] at h1
      obtain ⟨_, _, hcell⟩ := World.cells?_some h1
      obtain ⟨p, m', k, v, n', y, rfl, hms, hv⟩ := open_rule h2
      obtain ⟨zs, hz1, hz2⟩ := open_texts hv
      have c0 := hcell 0 (by omega)
      have c1 := hcell 1 (by omega)
      have c2 := hcell 2 (by omega)
      have c3 := hcell 3 (by omega)
      have e0 : (a.add (i * 4)).add 0 = a.add (i * 4) := by unfold Addr.add; simp
      rw [e0] at c0
      exact ⟨(⟨p, m'.data.toList, k, zs⟩, v), c0, c1, c2, c3, hz1, hz2⟩
    have : Inhabited (Raw × Value) := ⟨(⟨0, [], 0, []⟩, .bool false)⟩
    obtain ⟨q, hq⟩ := Go.Deep.choose_lt each
    obtain ⟨⟨g, o, rfl⟩, hb⟩ := addr_of5 (v := .int .i64 (q 0).1.prio) (by have := (hq 0 (by omega)).1; rw [Nat.zero_mul] at this; exact this)
    refine ⟨(List.range len).map q, ⟨Or.inr ⟨g, o, rfl, hb, fun i r hr => ?_, fun r hr => ?_⟩⟩, by simp, hl⟩
    · rw [List.getElem?_map, Option.map_eq_some_iff] at hr
      obtain ⟨i', hi', rfl⟩ := hr
      obtain ⟨hi, rfl⟩ := List.getElem?_eq_some_iff.1 hi'
      simp only [List.length_range] at hi
      simp only [List.getElem_range]
      obtain ⟨c0, c1, c2, c3, _, _⟩ := hq i hi
      rw [addr_add5] at c0 c1 c2 c3
      rw [addr_add5] at c1 c2 c3
      exact ⟨c0, c1, c2, c3⟩
    · obtain ⟨i, hi, rfl⟩ := List.mem_map.1 hr
      have := hq i (List.mem_range.1 hi)
      exact ⟨this.2.2.2.2.1, this.2.2.2.2.2⟩
end
end Go.Proofs.YtemennekglebnaaGreatDoor
namespace Go.Proofs.YtemennekglebnaaGreatDoor
open Go.ChangeShapes Go.WideShapes Go.ChangeAt Go.RowKit
open Go.ChangeMaps (open_string shut_string)

theorem UCBack.laidOut : laidOutB Tryz.prog = true := by kernel_rfl
theorem UCBack.pow {W : World} (h : laidMetH Tryz.prog Rows.rulesBackRow.laid W) : PowTab W := by
  rw [MakeChecks.laidMetH_plain _ _ _ (by kernel_rfl)] at h
  have hF := h.filter (fun x => x.1 == "internal/strconv.uint64pow10")
  rw [show Rows.rulesBackRow.laid.filter (fun x => x.1 == "internal/strconv.uint64pow10") = [("internal/strconv.uint64pow10", Lib.tabData .u64 Lib.pow10Tab)] by kernel_rfl] at hF
  exact Lib.tabIs_of_head (g := 1) (t := 190) (e := 140) (n := 20) (by kernel_rfl) (by kernel_rfl) (by kernel_rfl) (by kernel_rfl) (by kernel_rfl) (by kernel_rfl) hF
theorem UCBack.own : ownKnob Tryz.prog.godebug = none := by kernel_rfl

set_option maxRecDepth 100000 in
theorem UCBack.lifted (os : Os) (started : os.Started) (H : Type) (enc : TypeId × Value → H) :
    ReturnsInHanded {} Tryz.checked os 4 .any (fun w args => (Rows.rulesBackSpec.pre enc Tryz.prog Tryz.f4 [] false w args ∧ laidMetH Tryz.prog Rows.rulesBackRow.laid w) ∧ sizedMet enc Tryz.prog Tryz.f4 (OpenSpec.ofChange Rows.rulesBackSpec) false w args)
      (Rows.rulesBackSpec.post enc Tryz.prog Tryz.f4 false true false false) := by
  refine returnsInHanded_of_change_and (C := Tryz.checked) (X := fun w _ => laidMetH Tryz.prog Rows.rulesBackRow.laid w) (fun _ _ _ hh h => h.of_heap hh) UCBack.own started (by kernel_rfl) Tryz.func4
    (ChangeSpec.witness_shaped (enc := enc) (C := Tryz.checked) (os := os) (X := fun w _ => laidMetH Tryz.prog Rows.rulesBackRow.laid w) false (World.laidAll Tryz.prog os Rows.rulesBackRow.laid) #[.slice none 0 0, .int .i64 0] 8 (World.laidAll_os _ _ _)
      (World.shaped_of_ZipB (by kernel_rfl) (by kernel_rfl)) (by kernel_rfl) (by kernel_rfl) (by kernel_rfl)
      (by rw [MakeChecks.laidMetH_plain _ _ _ (by kernel_rfl)]; exact laidMet_laidAll _ (by kernel_rfl) (by kernel_rfl))) ?_
  intro W base args ds gs before hval0 hW _ _ hL _
  have hval : ∀ (j : Nat) t v, Tryz.f4.params[j]? = some t → args[j]? = some v → Value.okWide Tryz.prog W .any base t v := hval0
  have hW' := hW
  obtain ⟨p, q, hA0, hV, rfl, _, _⟩ := hW
  have hA : DataW.TrodAll enc Tryz.prog W 0 (fun _ => true) true Tryz.f4.params.toList args.toList ds p := hA0
  rw [Tryz.params4] at hA hval
  obtain ⟨v0, vs0, d0, ds0, p0, q0, hargs, rfl, rfl, h0, r0⟩ := trodAll_cons hA
  obtain ⟨v1, vs1, d1, ds1, p1, q1, rfl, rfl, rfl, h1, r1⟩ := trodAll_cons r0
  obtain ⟨rfl, rfl, rfl⟩ := trodAll_nil r1
  obtain rfl : args = #[v0, v1] := by cases args; simp_all
  obtain ⟨rfl, rfl⟩ := trodVars_none hV
  obtain ⟨a0, len0, cap0, rfl⟩ := okWide_slice Tryz.underlying22 (hval 0 22 v0 rfl rfl)
  obtain ⟨a1, rfl, rfl, rfl, w1⟩ := open_int Tryz.underlying3 (hval 1 3 v1 rfl rfl) h1
  have k0 := h0
  have lt0 : ∀ x ∈ p0, x.block < W.heap.size := by obtain ⟨m, hm⟩ := k0; exact DataW.trod_lt m _ _ _ hm
  obtain ⟨ps, hin, hlen, hcap⟩ : ∃ ps : List (Raw × Value), RawIn W a0 ps ∧ ps.length = len0 ∧ len0 ≤ cap0 := by
    obtain ⟨fuel, hf⟩ := h0
    exact open_rules hf
  simp only [List.append_nil] at hW'
  refine (rback_any (width := a1) hin hlen hcap (UCBack.pow hL)).mono fun e W' ⟨he, hb⟩ => ?_
  subst he
  exact ⟨_, rfl, _, _, _, [], _, [], hW', trodAll_mk1 (shut_bool Tryz.underlying4 _), (trodAll_cons_mk (Below.trod UCBack.laidOut (by kernel_rfl) (of_decide_eq_true (by kernel_rfl)) k0 hb lt0) (trodAll_cons_mk (shut_int Tryz.underlying3 w1) trodAll_mk0)), rfl, hb.frame _, fun h => by cases h⟩

theorem UCBack.holds : Rows.RulesBackSaid :=
  OpenClaim.holds_of_wide 4 Tryz.f4 rfl rfl rfl rfl rfl rfl rfl ⟨rfl, rfl, rfl, rfl, rfl⟩ rfl rfl rfl rfl rfl (by kernel_rfl) Tryz.func4 (by kernel_rfl)
    (of_decide_eq_true (by kernel_rfl)) (by unfold Func.isWrapper; first | (rw [if_pos (by decide +kernel)]; kernel_rfl) | (rw [if_neg (by decide +kernel)]; exact ⟨rfl, rfl⟩))
    (fun os started H enc _ => UCBack.lifted os started H enc)

theorem RulesBack_holds : Rows.RulesBackCardSaid :=
  Claim7.holds_tied_plain_at .later [] [.data, .data, .data, .data, .pinned] true (true, "72cc126ce22dfc5087d9d3a8775d7a4f82fe8740ba2e534473fa7873a8572b22") false UCBack.holds (fun _ h => by cases h) (by kernel_rfl) (fun _ h => by cases h) rulesBack_row_tie rfl ⟨rfl, rfl⟩ (by kernel_rfl) rfl
    (fun f fn hf hfn => by
      obtain rfl : f = 4 := Option.some.inj ((show Tryz.prog.funcNamed "milestone/milestonelaw05.RulesBack" = some 4 by kernel_rfl).symm.trans hf) |>.symm
      obtain rfl : fn = Tryz.f4 := (Option.some.inj (Tryz.func4.symm.trans hfn)).symm
      exact ⟨by kernel_rfl, fun j t ht => by
        rw [Tryz.params4] at ht
        have hm : t ∈ [22, 3] := by simpa using Array.mem_of_getElem? ht
        have hall : ([22, 3].all fun u => !Tryz.prog.wantsStandIn u) = true := by kernel_rfl
        exact (show Tryz.prog.wantsStandIn t = false by simpa using List.all_eq_true.1 hall t hm)⟩)
    (by kernel_rfl)
#print axioms RulesBack_holds
end Go.Proofs.YtemennekglebnaaGreatDoor
