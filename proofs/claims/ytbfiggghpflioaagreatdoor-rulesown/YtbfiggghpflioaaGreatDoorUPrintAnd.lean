/-
  The closure of Order: two rules of a row, compared by their numbers.
  Which rule stands ahead: the program's Ahead and the document's.
  Which rule stands ahead: compare, Ahead.
  Which rule stands ahead: compare, Ahead.
  Rules that came in as an argument, opened: a slice of structs with a struct and a slice of texts inside.
  The law RulesBack: what is printed is parsed as the same rules.
  The document's SameRules, of rules that came in and rules that were parsed; the text and the Print of no rule.
  Print, of any rules that came in.
-/
import Derived.Test.YtbfiggghpflioaaGreatDoorUChkAAnd
import Derived.WalkKit
import Derived.ProofKit
import Derived.OpenShut
import Derived.ShutString
import Derived.Deep.Slices
import Derived.ChangeArms
import Derived.SliceStrings
namespace Go.Proofs.YtbfiggghpflioaaGreatDoor
open Go.RowKit
open Wo (Wd)

/-- A rule as it came in. -/
structure Raw where
  prio : Int
  mat : List UInt8
  kind : Int
  ports : List (List UInt8)
def Raw.rl (r : Raw) : Ru.Rl := ⟨r.prio.toNat, r.mat, r.kind.toNat, r.ports⟩
def Raw.ok (width : Int) (r : Raw) : Prop := okRule width r.prio r.mat r.kind r.ports
theorem Raw.okRl {width : Int} {r : Raw} (h : r.ok width) : Ru.OkRl width.toNat r.rl ∧ r.prio = r.rl.prio ∧ r.kind = r.rl.kind := by
  have h1 := h.wide
  have h2 := h.prio
  have h4 := h.len
  have hk : 1 ≤ r.kind ∧ r.kind ≤ 4 := by rcases h.act with ⟨q, _⟩ | ⟨q, _⟩ <;> omega
  refine ⟨⟨?_, h.cube, ?_, ?_⟩, ?_, ?_⟩
  · show r.prio.toNat ≤ _; omega
  · show r.mat.length = _; omega
  · rcases h.act with ⟨q, hp⟩ | ⟨q, hp⟩
    · exact Or.inl ⟨by show r.kind.toNat = 1 ∨ r.kind.toNat = 2; omega, hp⟩
    · exact Or.inr ⟨by show r.kind.toNat = 3 ∨ r.kind.toNat = 4; omega, hp⟩
  · show r.prio = (r.prio.toNat : Int); omega
  · show r.kind = (r.kind.toNat : Int); omega
/-- Rules that came in, for reading. -/
structure RawView (w : World) (g o : Nat) (ps : List (Raw × Value)) : Prop where
  old : g < w.heap.size
  cell : ∀ (i : Nat) (q : Raw × Value), ps[i]? = some q → w.cell? ⟨g, o + i * 4, none⟩ = some (.int .i64 q.1.prio) ∧ w.cell? ⟨g, o + i * 4 + 1, none⟩ = some (.string (tx q.1.mat)) ∧ w.cell? ⟨g, o + i * 4 + 2, none⟩ = some (.int .i64 q.1.kind) ∧ w.cell? ⟨g, o + i * 4 + 3, none⟩ = some q.2
  ports : ∀ q ∈ ps, Txs w q.2 q.1.ports ∧ ∀ p ∈ q.1.ports, p.length ≤ maxLen
theorem RawView.rl {w : World} {g o : Nat} {ps : List (Raw × Value)} {width : Int} (h : RawView w g o ps) (hok : ∀ q ∈ ps, q.1.ok width) : RViewO w g o (ps.map fun q => (q.1.rl, q.2)) := by
  refine ⟨h.old, fun i q hq => ?_, fun q hq => ?_⟩
  · rw [List.getElem?_map, Option.map_eq_some_iff] at hq
    obtain ⟨q0, h0, rfl⟩ := hq
    obtain ⟨c0, c1, c2, c3⟩ := h.cell i q0 h0
    obtain ⟨_, e1, e2⟩ := Raw.okRl (hok q0 (List.mem_of_getElem? h0))
    exact ⟨by rw [c0]; exact congrArg (fun z => some (Value.int .i64 z)) e1, c1, by rw [c2]; exact congrArg (fun z => some (Value.int .i64 z)) e2, c3⟩
  · obtain ⟨q0, h0, rfl⟩ := List.mem_map.1 hq
    exact (h.ports q0 h0).1

/-- What Print answers. -/
def PrintPost (w : World) (width : Int) (ps : List (Raw × Value)) (en : Ending) (w' : World) : Prop :=
  Below w.heap.size w w' ∧ ((∃ i e : Int, e ≠ 0 ∧ en = .returned (.tuple #[.string (tx []), .int .i64 i, .int .i64 e])) ∨
    ((∀ q ∈ ps, q.1.ok width) ∧ (1 ≤ width ∧ width ≤ 128) ∧ (ps.map fun q => q.1.rl).Pairwise (fun a b => Ru.same a b = false) ∧ en = .returned (.tuple #[.string (tx (Ru.printT (ps.map fun q => q.1.rl))), .int .i64 0, .int .i64 0])))

def keyOf (x : Ru.Rl) : Nat × List UInt8 := (x.prio, x.mat)
theorem same_keys {rs : List Ru.Rl} (h : (rs.map keyOf).Nodup) : rs.Pairwise (fun a b => Ru.same a b = false) := by
  have h1 := List.pairwise_map.1 h
  refine h1.imp ?_
  intro a b hab
  refine decide_eq_false (fun q => hab ?_)
  unfold keyOf
  rw [q.1, q.2]

set_option maxRecDepth 20000 in
set_option maxHeartbeats 2000000 in
theorem Print_some {w : World} {g o cap n : Nat} {width : Int} {ps : List (Raw × Value)} (h : RawView w g o ps) (hn : ps.length = n) (h60 : n ≤ 60) (hT : PowTab w) :
    Calls Tryz.prog 40 #[.slice (some ⟨g, o, none⟩) n cap, .int .i64 width] w fun en w' => PrintPost w width ps en w' := by
  have H := hid h
  have HN := hid hn
  have HT := hid hT
  have hg := h.old
  clear h hn hT
  have HW := hid (isWidth_any width)
  by_cases hw : 1 ≤ width ∧ width ≤ 128
  case neg =>
    rw [decide_eq_false hw] at HW
    go_enter Tryz.func40, Tryz.ntmps40
    go_wp2_with fail
    refine (HW.out _).mono ?_
    rintro en w1 ⟨rfl, rfl⟩
    go_wp2
    refine bodyPost_ret (v := .tuple #[.string (tx []), .int .i64 0, .int .i64 1]) (by simp [results, Tryz.results40, go_sem]) rfl ?_
    exact ⟨Below.refl _ _, Or.inl ⟨0, 1, by decide, rfl⟩⟩
  rw [decide_eq_true hw] at HW
  have HWW := hid hw
  clear hw
  have h4096 : ¬ ((4096 : Int) < (n : Int)) := by omega
  go_enter Tryz.func40, Tryz.ntmps40
  go_wp2_with fail
  refine (HW.out _).mono ?_
  rintro en w1 ⟨rfl, hww⟩
  have hw1 := hww.symm
  clear hww
  subst hw1
  go_wp2_with fail
  have HCH := hid (fun (W : World) (hb : Below w.heap.size w W) (q : Raw × Value) (hq : q ∈ ps) => Check_any (width := width) (p := q.1.prio) (k := q.1.kind) (m := q.1.mat) ((H.out.ports q hq).1.below hb) (H.out.ports q hq).2)
  go_loopw [21] (fun i wr => ∃ j : Nat, j ≤ n ∧ i = .int .i64 j ∧ Hid (∀ i q, i < j → ps[i]? = some q → q.1.ok width) ∧ Hid (Below w.heap.size w wr)) (fun i _ => n - (intOf i).toNat)
  case atStart => exact ⟨0, Nat.zero_le _, rfl, fun i q hi => absurd hi (Nat.not_lt_zero i), Below.refl _ _⟩
  case round =>
    obtain ⟨j, hj, rfl, HOK, HB⟩ := hrel
    by_cases hlt : j < n
    · obtain ⟨q, hq⟩ : ∃ q, ps[j]? = some q := ⟨ps[j]'(by rw [HN.out]; exact hlt), List.getElem?_eq_getElem _⟩
      obtain ⟨a0, a1, a2, a3⟩ := H.out.cell j q hq
      have hm := List.mem_of_getElem? hq
      have hp := (H.out.ports q hm).1
      have HQ := hid hq
      obtain ⟨x, u⟩ := q
      have HC1 := hid (fun W hb => HCH.out W hb _ hm)
      simp only at a0 a1 a2 a3 hp HC1
      obtain ⟨ao, s1, rfl, _⟩ := hp
      have k0 := (HB.out.cell (p := ⟨g, o + j * 4, none⟩) (by exact hg)).trans a0
      have k1 := (HB.out.cell (p := ⟨g, o + j * 4 + 1, none⟩) (by exact hg)).trans a1
      have k2 := (HB.out.cell (p := ⟨g, o + j * 4 + 2, none⟩) (by exact hg)).trans a2
      have k3 := (HB.out.cell (p := ⟨g, o + j * 4 + 3, none⟩) (by exact hg)).trans a3
      have hkI : (j : Int) < (n : Int) := by omega
      have hk0 : (0 : Int) ≤ (j : Int) := by omega
      have B0 := hid (show Below w.heap.size w (wr.alloc (rob x.prio (tx x.mat) x.kind (.slice ao x.ports.length s1))) from HB.out.alloc HB.out.size _)
      clear hq a0 a1 a2 a3 hm
      go_wp2_with fail
      refine (HC1.out _ B0.out).mono ?_
      rintro en w2 ⟨e, rfl, he, hb2⟩
      have B2 := hid (B0.out.trans (hb2.mono B0.out.size))
      have HE := hid he
      clear hb2 he
      by_cases h0 : e = 0
      · have HO := hid (HE.out.1 h0)
        subst h0
        go_wp2
        go_roundw
        case rel =>
          refine ⟨j + 1, by omega, by go_num, fun i q hi hq => ?_, B2⟩
          by_cases e : i = j
          · subst e
            rw [HQ.out] at hq
            simp only [Option.some.injEq] at hq
            rw [← hq]; exact HO.out
          · exact HOK.out i q (by omega) hq
        case measure => simp [intOf]; omega
      · go_wp2
        refine bodyPost_ret (v := .tuple #[.string (tx []), .int .i64 j, .int .i64 e]) (by simp [results, Tryz.results40, go_sem]) rfl ?_
        exact ⟨B2.out, Or.inl ⟨j, e, h0, rfl⟩⟩
    · have hkI : ¬ ((j : Int) < (n : Int)) := by omega
      have hmm : ∀ w : World, (Instr.makeMap 135 none).run Tryz.prog w = .ok (.map (some w.heap.size)) (w.alloc (.map #[] 0)) := fun _ => by kernel_rfl
      have HALL := hid (show ∀ q ∈ ps, q.1.ok width from fun q hq => by
        obtain ⟨i, hi, e⟩ := List.mem_iff_getElem.1 hq
        exact HOK.out i q (by have := HN.out; omega) (by rw [List.getElem?_eq_getElem hi, e]))
      have HR := hid (H.out.rl HALL.out)
      obtain ⟨rs, hrs⟩ : ∃ rs, rs = ps.map fun q => q.1.rl := ⟨_, rfl⟩
      obtain ⟨qs, hqs⟩ : ∃ qs, qs = ps.map fun q => (q.1.rl, q.2) := ⟨_, rfl⟩
      have HRQ := hid (show qs.map Prod.fst = rs by rw [hqs, hrs, List.map_map]; rfl)
      have HQL := hid (show qs.length = n by rw [hqs, List.length_map]; exact HN.out)
      have HQO := hid (show ∀ q ∈ qs, Ru.OkRl width.toNat q.1 from fun q hq => by
        rw [hqs] at hq
        obtain ⟨q0, h0, rfl⟩ := List.mem_map.1 hq
        exact (Raw.okRl (HALL.out q0 h0)).1)
      rw [← hqs] at HR
      have HRS := hid hrs
      clear hrs hqs HOK HCH
      obtain ⟨mb, hmb⟩ : ∃ mb, mb = wr.heap.size := ⟨_, rfl⟩
      have hmb0 : w.heap.size ≤ mb := by rw [hmb]; exact HB.out.size
      have K0 := hid (show KeysAt (wr.alloc (.map #[] 0)) mb (((rs.take 0)).map keyOf) by rw [hmb]; exact KeysAt.new wr)
      have B0 := hid (show Below w.heap.size w (wr.alloc (.map #[] 0)) from HB.out.alloc HB.out.size _)
      go_wp2_with fail
      rw [← hmb]
      clear hmb
      go_loopw [37] (fun i w2 => ∃ j : Nat, j ≤ n ∧ i = .int .i64 j ∧ Hid (KeysAt w2 mb ((rs.take j).map keyOf)) ∧ Hid (((rs.take j).map keyOf).Nodup) ∧ Hid (Below w.heap.size w w2)) (fun i _ => n - (intOf i).toNat)
      case atStart => exact ⟨0, Nat.zero_le _, rfl, K0, List.nodup_nil, B0⟩
      case round =>
        obtain ⟨j, hj, rfl, HK, HD, HB2⟩ := hrel
        by_cases hlt : j < n
        · obtain ⟨q, hq⟩ : ∃ q, qs[j]? = some q := ⟨qs[j]'(by rw [HQL.out]; exact hlt), List.getElem?_eq_getElem _⟩
          obtain ⟨a0, a1, a2, a3⟩ := HR.out.cell j q hq
          have hp := HR.out.ports q (List.mem_of_getElem? hq)
          have HO := hid (HQO.out q (List.mem_of_getElem? hq))
          obtain ⟨x, u⟩ := q
          simp only at a0 a1 a2 a3 hp HO
          have HX := hid (show rs[j]? = some x by rw [← HRQ.out, List.getElem?_map, hq]; rfl)
          obtain ⟨ao, s1, rfl, _⟩ := hp
          have k0 := (HB2.out.cell (p := ⟨g, o + j * 4, none⟩) (by exact hg)).trans a0
          have k1 := (HB2.out.cell (p := ⟨g, o + j * 4 + 1, none⟩) (by exact hg)).trans a1
          have k2 := (HB2.out.cell (p := ⟨g, o + j * 4 + 2, none⟩) (by exact hg)).trans a2
          have k3 := (HB2.out.cell (p := ⟨g, o + j * 4 + 3, none⟩) (by exact hg)).trans a3
          have hkI : (j : Int) < (n : Int) := by omega
          have hk0 : (0 : Int) ≤ (j : Int) := by omega
          clear hq a0 a1 a2 a3
          have KA := hid (show KeysAt (wr.alloc (rob x.prio (tx x.mat) x.kind (.slice ao x.ports.length s1))) mb ((rs.take j).map keyOf) from HK.out.same (heap_old _ _ HK.out.lt))
          have BA := hid (show Below w.heap.size w (wr.alloc (rob x.prio (tx x.mat) x.kind (.slice ao x.ports.length s1))) from HB2.out.alloc HB2.out.size _)
          have hml : x.mat.length ≤ 1048576 := by have := (Cub.Cu.right_all HO.out.cube).2.2; omega
          have HAD := hid (uadd KA.out x (.slice ao x.ports.length s1) HO.out.prio hml (by rw [List.length_map, List.length_take]; omega))
          have HTK := hid (show (rs.take (j + 1)).map keyOf = (rs.take j).map keyOf ++ [(x.prio, x.mat)] by
            rw [List.take_add_one, HX.out, List.map_append]; rfl)
          obtain ⟨ks, hks⟩ : ∃ ks, ks = (rs.take j).map keyOf := ⟨_, rfl⟩
          rw [← hks] at HAD HTK HD
          clear hks
          by_cases hin : (x.prio, x.mat) ∈ ks
          · rw [decide_eq_false (fun q => q hin)] at HAD
            clear hin
            go_wp2_with fail
            refine (HAD.out).mono ?_
            rintro en w3 ⟨rfl, _, hg3⟩
            have B3 := hid (below_grow BA.out hg3 BA.out.size hmb0)
            clear hg3
            go_wp2
            refine bodyPost_ret (v := .tuple #[.string (tx []), .int .i64 j, .int .i64 52]) (by simp [results, Tryz.results40, go_sem]) rfl ?_
            exact ⟨B3.out, Or.inl ⟨j, 52, by decide, rfl⟩⟩
          · rw [decide_eq_true hin] at HAD
            have HIN := hid hin
            clear hin
            go_wp2_with fail
            refine (HAD.out).mono ?_
            rintro en w3 ⟨rfl, hk3, hg3⟩
            have B3 := hid (below_grow BA.out hg3 BA.out.size hmb0)
            have K3 := hid (hk3 HIN.out)
            clear hg3 hk3
            go_wp2
            go_roundw
            case rel =>
              refine ⟨j + 1, by omega, by go_num, by show KeysAt _ _ _; rw [HTK.out]; exact K3.out, ?_, B3⟩
              show List.Nodup _
              rw [HTK.out]
              refine List.nodup_append.2 ⟨HD.out, by simp, fun a ha b hb e => ?_⟩
              rw [List.mem_singleton.1 hb] at e
              exact HIN.out (e ▸ ha)
            case measure => simp [intOf]; omega
        · have hkI : ¬ ((j : Int) < (n : Int)) := by omega
          have HE := hid (show rs.take j = rs from List.take_of_length_le (by rw [← HRQ.out, List.length_map, HQL.out]; omega))
          rw [HE.out] at HD
          have HTX := hid (text_some (cap := cap) (width := width.toNat) (w := wr) (g := g) (o := o) (n := n) (ps := qs)
            ⟨Nat.lt_of_lt_of_le hg HB2.out.size, fun i q hq => by
              obtain ⟨c0, c1, c2, c3⟩ := HR.out.cell i q hq
              exact ⟨(HB2.out.cell (by exact hg)).trans c0, (HB2.out.cell (by exact hg)).trans c1, (HB2.out.cell (by exact hg)).trans c2, (HB2.out.cell (by exact hg)).trans c3⟩, fun q hq => (HR.out.ports q hq).below HB2.out⟩ HQL.out (by omega) HQO.out (HT.out.below HB2.out))
          rw [HRQ.out] at HTX
          go_wp2_with fail
          refine (HTX.out).mono ?_
          rintro en w3 ⟨rfl, hb3⟩
          have B3 := hid (HB2.out.trans (hb3.mono HB2.out.size))
          clear hb3
          go_wp2
          refine bodyPost_ret (v := .tuple #[.string (tx (Ru.printT rs)), .int .i64 0, .int .i64 0]) (by simp [results, Tryz.results40, go_sem]) rfl ?_
          refine ⟨B3.out, Or.inr ⟨HALL.out, HWW.out, ?_, ?_⟩⟩
          · rw [← HRS.out]; exact same_keys HD.out
          · rw [← HRS.out]
end Go.Proofs.YtbfiggghpflioaaGreatDoor
namespace Go.Proofs.YtbfiggghpflioaaGreatDoor
open Go.RowKit
open Wo (Wd)

set_option maxRecDepth 20000 in
set_option maxHeartbeats 2000000 in
theorem SameRules_o {w : World} {g1 o g2 : Nat} {ps1 ps2 : List (Ru.Rl × Value)} (c1 c2 n : Nat) (h1 : RViewO w g1 o ps1) (h64 : ∀ q ∈ ps1, q.1.ports.length ≤ maxLen) (h2 : RView w g2 ps2) (hl1 : ps1.length = n) (hl2 : ps2.length = n) (he : ps1.map Prod.fst = ps2.map Prod.fst) (hn : n ≤ 1048576) :
    Calls Tryz.prog 9 #[.slice (some ⟨g1, o, none⟩) n c1, .slice (some ⟨g2, 0, none⟩) n c2] w fun e w' => e = .returned (.bool true) ∧ Below w.heap.size w w' := by
  have H1 := hid h1
  have H2 := hid h2
  have H64 := hid h64
  have HL1 := hid hl1
  have HL2 := hid hl2
  have HE := hid he
  have ho1 := h1.old
  have ho2 := h2.old
  clear h1 h2 hl1 hl2 he h64
  have hne : ((n : Int) != (n : Int)) = false := by simp
  go_enter Tryz.func9, Tryz.ntmps9
  go_wp2_with fail
  go_loopw [5] (fun i wr => ∃ j : Nat, j ≤ n ∧ i = .int .i64 j ∧ Hid (Below w.heap.size w wr)) (fun i _ => n - (intOf i).toNat)
  case atStart => exact ⟨0, Nat.zero_le _, rfl, Below.refl _ _⟩
  case round =>
    obtain ⟨j, hj, rfl, HB⟩ := hrel
    by_cases hlt : j < n
    · obtain ⟨q1, hq1⟩ : ∃ q, ps1[j]? = some q := ⟨ps1[j]'(by rw [HL1.out]; exact hlt), List.getElem?_eq_getElem _⟩
      obtain ⟨q2, hq2⟩ : ∃ q, ps2[j]? = some q := ⟨ps2[j]'(by rw [HL2.out]; exact hlt), List.getElem?_eq_getElem _⟩
      have hq : q1.1 = q2.1 := by
        have := congrArg (fun l => l[j]?) HE.out
        simp only [List.getElem?_map, hq1, hq2, Option.map_some, Option.some.injEq] at this
        exact this
      obtain ⟨a0, a1, a2, a3⟩ := H1.out.cell j q1 hq1
      obtain ⟨b0, b1, b2, b3⟩ := H2.out.cell j q2 hq2
      have hp1 := And.intro (H1.out.ports q1 (List.mem_of_getElem? hq1)) (H64.out q1 (List.mem_of_getElem? hq1))
      have hp2 := H2.out.ports q2 (List.mem_of_getElem? hq2)
      rw [← hq] at b0 b1 b2 hp2
      obtain ⟨x, u1⟩ := q1
      obtain ⟨y, u2⟩ := q2
      simp only at a0 a1 a2 a3 b0 b1 b2 b3 hp1 hp2 hq
      have k0 := (HB.out.cell (p := ⟨g1, o + j * 4, none⟩) (by exact ho1)).trans a0
      have k1 := (HB.out.cell (p := ⟨g1, o + j * 4 + 1, none⟩) (by exact ho1)).trans a1
      have k2 := (HB.out.cell (p := ⟨g1, o + j * 4 + 2, none⟩) (by exact ho1)).trans a2
      have k3 := (HB.out.cell (p := ⟨g1, o + j * 4 + 3, none⟩) (by exact ho1)).trans a3
      have m0 := (HB.out.cell (p := ⟨g2, j * 4, none⟩) (by exact ho2)).trans b0
      have m1 := (HB.out.cell (p := ⟨g2, j * 4 + 1, none⟩) (by exact ho2)).trans b1
      have m2 := (HB.out.cell (p := ⟨g2, j * 4 + 2, none⟩) (by exact ho2)).trans b2
      have m3 := (HB.out.cell (p := ⟨g2, j * 4 + 3, none⟩) (by exact ho2)).trans b3
      have HS := hid (fun (w' : World) (hb : Below w.heap.size w w') => Same_acts (k := x.kind) (hp1.1.below hb) (hp2.1.below hb) hp1.2)
      obtain ⟨o1, s1, rfl, _⟩ := hp1.1
      obtain ⟨o2, s2, rfl, _⟩ := hp2.1
      have HSS : Hid (∀ W : World, Below w.heap.size w W → W.cell? ⟨g1, o + j * 4, none⟩ = some (.int .i64 x.prio) ∧ W.cell? ⟨g1, o + j * 4 + 1, none⟩ = some (.string (tx x.mat)) ∧ W.cell? ⟨g1, o + j * 4 + 2, none⟩ = some (.int .i64 x.kind) ∧ W.cell? ⟨g1, o + j * 4 + 3, none⟩ = some (.slice o1 x.ports.length s1) ∧ W.cell? ⟨g2, j * 4, none⟩ = some (.int .i64 x.prio) ∧ W.cell? ⟨g2, j * 4 + 1, none⟩ = some (.string (tx x.mat)) ∧ W.cell? ⟨g2, j * 4 + 2, none⟩ = some (.int .i64 x.kind) ∧ W.cell? ⟨g2, j * 4 + 3, none⟩ = some (.slice o2 x.ports.length s2)) := by
        intro W hW
        exact ⟨(hW.cell (p := ⟨g1, o + j * 4, none⟩) (by exact ho1)).trans a0, (hW.cell (p := ⟨g1, o + j * 4 + 1, none⟩) (by exact ho1)).trans a1, (hW.cell (p := ⟨g1, o + j * 4 + 2, none⟩) (by exact ho1)).trans a2, (hW.cell (p := ⟨g1, o + j * 4 + 3, none⟩) (by exact ho1)).trans a3,
          (hW.cell (p := ⟨g2, j * 4, none⟩) (by exact ho2)).trans b0, (hW.cell (p := ⟨g2, j * 4 + 1, none⟩) (by exact ho2)).trans b1, (hW.cell (p := ⟨g2, j * 4 + 2, none⟩) (by exact ho2)).trans b2, (hW.cell (p := ⟨g2, j * 4 + 3, none⟩) (by exact ho2)).trans b3⟩
      have hkI : (j : Int) < (n : Int) := by omega
      have hk0 : (0 : Int) ≤ (j : Int) := by omega
      have e1 : ((x.prio : Int) == (x.prio : Int)) = true := by simp
      have e2 : (x.mat == x.mat) = true := by simp
      clear hq1 hq2 hq a0 a1 a2 a3 b0 b1 b2 b3 hp1 hp2 k0 k1 k2 k3 m0 m1 m2 m3
      go_wp2_with fail
      go_region_held2 (fun W => W.cell? ⟨g1, o + j * 4, none⟩ = some (.int .i64 x.prio) ∧ W.cell? ⟨g1, o + j * 4 + 1, none⟩ = some (.string (tx x.mat)) ∧ W.cell? ⟨g1, o + j * 4 + 2, none⟩ = some (.int .i64 x.kind) ∧ W.cell? ⟨g1, o + j * 4 + 3, none⟩ = some (.slice o1 x.ports.length s1) ∧ W.cell? ⟨g2, j * 4, none⟩ = some (.int .i64 x.prio) ∧ W.cell? ⟨g2, j * 4 + 1, none⟩ = some (.string (tx x.mat)) ∧ W.cell? ⟨g2, j * 4 + 2, none⟩ = some (.int .i64 x.kind) ∧ W.cell? ⟨g2, j * 4 + 3, none⟩ = some (.slice o2 x.ports.length s2)) (first | exact hS2 | exact HSS.out _ HB.out.drew | exact HSS.out _ HB.out) (first | (go_at_call 31; refine (HS.out _ ?_).mono ?_; exact HB.out.drew; rintro en w2 ⟨rfl, hb2⟩; have B2 := hid (HB.out.drew.trans (hb2.mono HB.out.drew.size)); have hS2 := HSS.out w2 B2.out))
      go_wp2
      go_roundw
      case rel => exact ⟨j + 1, by omega, by go_num, B2⟩
      case measure => simp [intOf]; omega
    · have hkI : ¬ ((j : Int) < (n : Int)) := by omega
      go_wp2
      go_ret
      exact ⟨rfl, HB.out⟩

set_option maxHeartbeats 1000000 in
theorem text_none (ao : Option Addr) (cap : Nat) (w : World) : Calls Tryz.prog 72 #[.slice ao 0 cap] w fun en w' => en = .returned (.string (tx [])) ∧ Below w.heap.size w w' := by
  have hf := hid (Lib.fresh_isBuilder 171 5 w)
  go_enter Tryz.func72, Tryz.ntmps72
  go_wp2_with fail
  refine wp_loop_rounds 1 ?_
  rw [rounds_succ]
  go_wp2_with fail
  refine (String_any w.heap.size w.heap.size [] _ hf.out (by simp)).mono ?_
  rintro en w1 ⟨rfl, hb1⟩
  go_wp2
  go_ret
  exact ⟨rfl, ((Below.refl _ _).alloc (Nat.le_refl _) _).trans hb1⟩

set_option maxRecDepth 20000 in
set_option maxHeartbeats 2000000 in
theorem Print_none (ao : Option Addr) (cap : Nat) (width : Int) (w : World) :
    Calls Tryz.prog 40 #[.slice ao 0 cap, .int .i64 width] w fun en w' => PrintPost w width [] en w' := by
  have HW := hid (isWidth_any width)
  by_cases hw : 1 ≤ width ∧ width ≤ 128
  case neg =>
    rw [decide_eq_false hw] at HW
    go_enter Tryz.func40, Tryz.ntmps40
    go_wp2_with fail
    refine (HW.out _).mono ?_
    rintro en w1 ⟨rfl, rfl⟩
    go_wp2
    refine bodyPost_ret (v := .tuple #[.string (tx []), .int .i64 0, .int .i64 1]) (by simp [results, Tryz.results40, go_sem]) rfl ?_
    exact ⟨Below.refl _ _, Or.inl ⟨0, 1, by decide, rfl⟩⟩
  rw [decide_eq_true hw] at HW
  have HWW := hid hw
  clear hw
  have hmm : ∀ w : World, (Instr.makeMap 135 none).run Tryz.prog w = .ok (.map (some w.heap.size)) (w.alloc (.map #[] 0)) := fun _ => by kernel_rfl
  go_enter Tryz.func40, Tryz.ntmps40
  go_wp2_with fail
  refine (HW.out _).mono ?_
  rintro en w1 ⟨rfl, hww⟩
  have hw1 := hww.symm
  clear hww
  subst hw1
  go_wp2_with fail
  refine wp_loop_rounds 1 ?_
  rw [rounds_succ]
  go_wp2_with fail
  refine wp_loop_rounds 1 ?_
  rw [rounds_succ]
  go_wp2_with fail
  refine (text_none ao cap _).mono ?_
  rintro en w3 ⟨rfl, hb3⟩
  have B3 := hid (show Below w.heap.size w w3 from ((Below.refl _ _).alloc (Nat.le_refl _) _).trans (hb3.mono (by simp)))
  clear hb3
  go_wp2
  refine bodyPost_ret (v := .tuple #[.string (tx []), .int .i64 0, .int .i64 0]) (by simp [results, Tryz.results40, go_sem]) rfl ?_
  exact ⟨B3.out, Or.inr ⟨fun q hq => absurd hq (by simp), HWW.out, List.Pairwise.nil, rfl⟩⟩
end Go.Proofs.YtbfiggghpflioaaGreatDoor
namespace Go.Proofs.YtbfiggghpflioaaGreatDoor
open Go.RowKit
open Wo (Wd)

/-- Rules that came in. -/
structure RawIn (w : World) (ao : Option Addr) (ps : List (Raw × Value)) : Prop where
  at_ : ps = [] ∨ ∃ g o, ao = some ⟨g, o, none⟩ ∧ RawView w g o ps
theorem RawIn.take {w : World} {ao : Option Addr} {ps : List (Raw × Value)} (h : RawIn w ao ps) (k : Nat) : RawIn w ao (ps.take k) := by
  rcases h.at_ with rfl | ⟨g, o, e, hv⟩
  · exact ⟨Or.inl (by simp)⟩
  · refine ⟨Or.inr ⟨g, o, e, hv.old, fun i q hq => hv.cell i q ?_, fun q hq => hv.ports q (List.mem_of_mem_take hq)⟩⟩
    rw [List.getElem?_take] at hq
    split at hq
    · exact hq
    · cases hq
theorem Print_any {w : World} {ao : Option Addr} {ps : List (Raw × Value)} (h : RawIn w ao ps) (cap : Nat) (width : Int) (h60 : ps.length ≤ 60) (hT : PowTab w) :
    Calls Tryz.prog 40 #[.slice ao ps.length cap, .int .i64 width] w fun en w' => PrintPost w width ps en w' := by
  rcases h.at_ with rfl | ⟨g, o, rfl, hv⟩
  · exact Print_none ao cap width w
  · exact Print_some hv rfl h60 hT
theorem SameRules_raw {w w' : World} {ao : Option Addr} {ps : List (Raw × Value)} (h : RawIn w ao ps) (hb : Below w.heap.size w w') (cap : Nat) {width : Int} (hok : ∀ q ∈ ps, q.1.ok width) (h60 : ps.length ≤ 60) {B : Nat} {v : Value} {qs : List (Ru.Rl × Value)} (hR : RsAt w' B v qs) (he : qs.map Prod.fst = ps.map fun q => q.1.rl) :
    Calls Tryz.prog 9 #[.slice ao ps.length cap, v] w' fun e w'' => e = .returned (.bool true) ∧ Below w'.heap.size w' w'' := by
  have hlen : qs.length = ps.length := by have := congrArg List.length he; simpa using this
  have h64 : ∀ q ∈ ps, q.1.ports.length ≤ 64 := fun q hq => by
    rcases (hok q hq).act with ⟨_, e⟩ | ⟨_, e⟩
    · rw [e]; simp
    · exact e.2.1
  by_cases h0 : 0 < ps.length
  · rcases h.at_ with rfl | ⟨g, o, rfl, hv⟩
    · simp at h0
    · have hr := hv.rl hok
      have hg := hv.old
      have hr' : RViewO w' g o (ps.map fun q => (q.1.rl, q.2)) := ⟨Nat.lt_of_lt_of_le hg hb.size, fun i q hq => by
        obtain ⟨c0, c1, c2, c3⟩ := hr.cell i q hq
        exact ⟨(hb.cell (by exact hg)).trans c0, (hb.cell (by exact hg)).trans c1, (hb.cell (by exact hg)).trans c2, (hb.cell (by exact hg)).trans c3⟩, fun q hq => (hr.ports q hq).below hb⟩
      obtain ⟨g2, c2, rfl, r2⟩ := rs_view hR (by omega) (fun q hq => by
        have : q.1 ∈ qs.map Prod.fst := List.mem_map_of_mem hq
        rw [he] at this
        obtain ⟨q0, h0, e0⟩ := List.mem_map.1 this
        rw [← e0]; exact h64 q0 h0)
      rw [hlen]
      exact SameRules_o cap c2 ps.length hr' (fun q hq => by
        obtain ⟨q0, h0, rfl⟩ := List.mem_map.1 hq
        have := h64 q0 h0
        show q0.1.ports.length ≤ _
        unfold maxLen; omega) r2 (by simp) hlen (by rw [he, List.map_map]; rfl) (by omega)
  · obtain ⟨a2, c2, rfl⟩ := hR.form
    rw [hlen, show ps.length = 0 by omega]
    exact SameRules_none ao a2 cap c2 w'

set_option maxHeartbeats 400000 in
theorem few_any (ao : Option Addr) (len cap : Nat) (w : World) (hc : len ≤ cap) (ha : len = 0 ∨ ∃ g o, ao = some ⟨g, o, none⟩) : Calls Tryz.prog 8 #[.slice ao len cap] w fun e w' => e = .returned (.slice ao (min len 60) cap) ∧ w' = w := by
  by_cases h : 60 < len
  · obtain ⟨g, o, rfl⟩ : ∃ g o, ao = some ⟨g, o, none⟩ := by rcases ha with h0 | h0; omega; exact h0
    rw [show min len 60 = 60 by omega]
    have hI : (60 : Int) < (len : Int) := by omega
    have hI2 : (60 : Int) ≤ (cap : Int) := by omega
    go_enter Tryz.func8, Tryz.ntmps8
    go_wp2
    go_ret
    exact ⟨rfl, rfl⟩
  · rw [show min len 60 = len by omega]
    have hI : ¬ ((60 : Int) < (len : Int)) := by omega
    go_enter Tryz.func8, Tryz.ntmps8
    go_wp2
    go_ret
    exact ⟨rfl, rfl⟩

end Go.Proofs.YtbfiggghpflioaaGreatDoor
namespace Go.Proofs.YtbfiggghpflioaaGreatDoor
open Go.ChangeShapes Go.WideShapes Go.ChangeAt Go.RowKit
open Wo (Wd)

theorem struct_of {P : Program} {t : TypeId} {l : List (TypeId × Nat)} (h : (match P.underlying t with | some (.struct fs) => decide (fs.toList.map (fun f => (f.type, f.offset)) = l) | _ => false) = true) : ∃ fs, P.underlying t = some (.struct fs) ∧ fs.toList.map (fun f => (f.type, f.offset)) = l := by
  split at h
  · rename_i fs e
    exact ⟨fs, e, of_decide_eq_true h⟩
  · cases h
theorem field_of {fs : Array Field} {l : List (TypeId × Nat)} (h : fs.toList.map (fun f => (f.type, f.offset)) = l) {i : Nat} {ty : TypeId} {off : Nat} (hi : l[i]? = some (ty, off)) : ∃ f, fs[i]? = some f ∧ f.type = ty ∧ f.offset = off := by
  rw [← h, List.getElem?_map, Option.map_eq_some_iff] at hi
  obtain ⟨f, hf, e⟩ := hi
  simp only [Prod.mk.injEq] at e
  exact ⟨f, by simpa using hf, e.1, e.2⟩

section
variable {H : Type} {enc : TypeId × Value → H} {w : World} {base : Nat} {spare : Nat → Bool} {held : Bool}

set_option maxRecDepth 100000 in
theorem open_rule {fuel : Nat} {cs : List Value} {x : DataW H × List MemPlace} (h : DataW.trod enc Tryz.prog w base spare held fuel 28 cs = some x) :
    ∃ (p : Int) (m : ByteArray) (k : Int) (v : Value) (n : Nat) (y : DataW H × List MemPlace), cs = [.int .i64 p, .string m, .int .i64 k, v] ∧ m.size ≤ maxLen ∧ DataW.trod enc Tryz.prog w base spare held n 24 [v] = some y := by
  obtain ⟨fs, hfs, hl⟩ := struct_of (P := Tryz.prog) (t := 28) (l := [(3, 0), (9, 1), (26, 2)]) (by kernel_rfl)
  obtain ⟨gs, hgs, hm⟩ := struct_of (P := Tryz.prog) (t := 26) (l := [(23, 0), (24, 1)]) (by kernel_rfl)
  obtain ⟨xs, n, _, _, hlen, hxl, hf⟩ := DataW.trod_struct hfs h
  have hc : Tryz.prog.cellsOf 28 = 4 := by kernel_rfl
  rw [hc] at hlen
  have hsz : fs.size = 3 := by have := congrArg List.length hl; simpa using this
  match cs, hlen with
  | [c0, c1, c2, c3], _ =>
    obtain ⟨f0, e0, t0, o0⟩ := field_of hl (i := 0) rfl
    obtain ⟨f1, e1, t1, o1⟩ := field_of hl (i := 1) rfl
    obtain ⟨f2, e2, t2, o2⟩ := field_of hl (i := 2) rfl
    have g0 := hf 0 f0 e0
    have g1 := hf 1 f1 e1
    have g2 := hf 2 f2 e2
    rw [t0, o0, show Tryz.prog.cellsOf 3 = 1 by kernel_rfl, List.getElem?_eq_getElem (show 0 < xs.length by omega)] at g0
    rw [t1, o1, show Tryz.prog.cellsOf 9 = 1 by kernel_rfl, List.getElem?_eq_getElem (show 1 < xs.length by omega)] at g1
    rw [t2, o2, show Tryz.prog.cellsOf 26 = 2 by kernel_rfl, List.getElem?_eq_getElem (show 2 < xs.length by omega)] at g2
    obtain ⟨p, hp, _, _⟩ := DataW.trod_int Tryz.underlying3 g0
    obtain ⟨m, hm1, _, hms⟩ := DataW.trod_string Tryz.underlying9 g1
    obtain ⟨ys, n2, _, _, _, hyl, hg⟩ := DataW.trod_struct hgs g2
    have hsz2 : gs.size = 2 := by have := congrArg List.length hm; simpa using this
    obtain ⟨k0, d0, u0, q0⟩ := field_of hm (i := 0) rfl
    obtain ⟨k1, d1, u1, q1⟩ := field_of hm (i := 1) rfl
    have r0 := hg 0 k0 d0
    have r1 := hg 1 k1 d1
    rw [u0, q0, show Tryz.prog.cellsOf 23 = 1 by kernel_rfl, List.getElem?_eq_getElem (show 0 < ys.length by omega)] at r0
    rw [u1, q1, show Tryz.prog.cellsOf 24 = 1 by kernel_rfl, List.getElem?_eq_getElem (show 1 < ys.length by omega)] at r1
    obtain ⟨k, hk, _, _⟩ := DataW.trod_int (k := .i64) (by kernel_rfl) r0
    simp at hp hm1 hk
    subst hp hm1 hk
    exact ⟨p, m, k, c3, n2, _, rfl, hms, by simpa using r1⟩

theorem addr_add5 (g o i : Nat) : (⟨g, o, none⟩ : Addr).add i = ⟨g, o + i, none⟩ := by
  unfold Addr.add; split <;> simp_all
theorem addr_of5 {w : World} {a : Addr} {v : Value} (h : w.cell? (a.add 0) = some v) : (∃ g o, a = ⟨g, o, none⟩) ∧ a.block < w.heap.size := by
  have e : a.add 0 = a := by unfold Addr.add; simp
  rw [e] at h
  obtain ⟨g, o, sp⟩ := a
  have hlt : g < w.heap.size := World.block_lt_of_cell? w _ h
  refine ⟨?_, hlt⟩
  cases sp with
  | none => exact ⟨g, o, rfl⟩
  | some s =>
    exfalso
    unfold World.cell? at h
    simp only [Option.isSome_some, if_true] at h
    split at h <;> cases h

/-- Texts that came in. -/
theorem open_texts {fuel : Nat} {v : Value} {x : DataW H × List MemPlace} (h : DataW.trod enc Tryz.prog w base (fun _ => true) held fuel 24 [v] = some x) : ∃ ps : List (List UInt8), Txs w v ps ∧ ∀ p ∈ ps, p.length ≤ maxLen := by
  rcases open_strings Tryz.underlying24 Tryz.underlying9 (by kernel_rfl) h with ⟨hcs, _⟩ | ⟨a, len, cap, ss, hcs, _, hl, hm, hz, _, hcell, hws⟩
  · simp only [List.cons.injEq, and_true] at hcs
    exact ⟨[], by rw [hcs]; exact Txs.nil _ _ _, fun p hp => absurd hp (by simp)⟩
  · simp only [List.cons.injEq, and_true] at hcs
    simp only [if_true] at hz
    refine ⟨(ss.take len).map (fun s => s.data.toList), ?_, fun p hp => ?_⟩
    · have hlen : ((ss.take len).map (fun s => s.data.toList)).length = len := by rw [List.length_map, List.length_take]; omega
      refine ⟨some a, cap, by rw [hlen, hcs], ?_⟩
      by_cases h0 : len = 0
      · exact Or.inl (by rw [h0]; simp)
      · obtain ⟨⟨g, o, rfl⟩, hb⟩ := addr_of5 (hcell 0 (by omega))
        refine Or.inr ⟨g, o, rfl, hb, fun i hi => ?_⟩
        rw [hlen] at hi
        have := hcell i (by omega)
        rw [addr_add5] at this
        rw [this]
        have hi2 : i < ss.length := by omega
        simp [List.getD_eq_getElem?_getD, List.getElem?_map, hi, List.getElem?_eq_getElem hi2]
    · obtain ⟨s, hs, rfl⟩ := List.mem_map.1 hp
      have := hws s (List.mem_of_mem_take hs)
      rw [list_size]; exact this

/-- Rules that came in. -/
theorem open_rules {fuel : Nat} {ao : Option Addr} {len cap : Nat} {x : DataW H × List MemPlace} (h : DataW.trod enc Tryz.prog w base (fun _ => true) held fuel 22 [.slice ao len cap] = some x) : ∃ ps : List (Raw × Value), RawIn w ao ps ∧ ps.length = len ∧ len ≤ cap := by
  rcases Go.Deep.open_slice (e := 28) Tryz.underlying22 h with ⟨hcs, _⟩ | ⟨a, len', cap', m, n, D, Pl, hcs, _, hl, hm, hmm, _, hx⟩
  · simp at hcs
    exact ⟨[], ⟨Or.inl rfl⟩, by rw [hcs.2.1]; rfl, by omega⟩
  · simp at hcs
    obtain ⟨rfl, rfl, rfl⟩ := hcs
    simp only [if_true] at hmm
    have hc : Tryz.prog.cellsOf 28 = 4 := by kernel_rfl
    by_cases h0 : len = 0
    · exact ⟨[], ⟨Or.inl rfl⟩, by rw [h0]; rfl, hl⟩
    have each : ∀ i, i < len → ∃ q : Raw × Value, w.cell? (a.add (i * 4)) = some (.int .i64 q.1.prio) ∧ w.cell? ((a.add (i * 4)).add 1) = some (.string (tx q.1.mat)) ∧ w.cell? ((a.add (i * 4)).add 2) = some (.int .i64 q.1.kind) ∧ w.cell? ((a.add (i * 4)).add 3) = some q.2 ∧ Txs w q.2 q.1.ports ∧ ∀ p ∈ q.1.ports, p.length ≤ maxLen := by
      intro i hi
      obtain ⟨cs', h1, h2⟩ := hx i (by omega)
      rw [hc] at h1
      obtain ⟨_, _, hcell⟩ := World.cells?_some h1
      obtain ⟨p, m', k, v, n', y, rfl, hms, hv⟩ := open_rule h2
      obtain ⟨zs, hz1, hz2⟩ := open_texts hv
      have c0 := hcell 0 (by omega)
      have c1 := hcell 1 (by omega)
      have c2 := hcell 2 (by omega)
      have c3 := hcell 3 (by omega)
      have e0 : (a.add (i * 4)).add 0 = a.add (i * 4) := by unfold Addr.add; simp
      rw [e0] at c0
      exact ⟨(⟨p, m'.data.toList, k, zs⟩, v), c0, c1, c2, c3, hz1, hz2⟩
    have : Inhabited (Raw × Value) := ⟨(⟨0, [], 0, []⟩, .bool false)⟩
    obtain ⟨q, hq⟩ := Go.Deep.choose_lt each
    obtain ⟨⟨g, o, rfl⟩, hb⟩ := addr_of5 (v := .int .i64 (q 0).1.prio) (by have := (hq 0 (by omega)).1; rw [Nat.zero_mul] at this; exact this)
    refine ⟨(List.range len).map q, ⟨Or.inr ⟨g, o, rfl, hb, fun i r hr => ?_, fun r hr => ?_⟩⟩, by simp, hl⟩
    · rw [List.getElem?_map, Option.map_eq_some_iff] at hr
      obtain ⟨i', hi', rfl⟩ := hr
      obtain ⟨hi, rfl⟩ := List.getElem?_eq_some_iff.1 hi'
      simp only [List.length_range] at hi
      simp only [List.getElem_range]
      obtain ⟨c0, c1, c2, c3, _, _⟩ := hq i hi
      rw [addr_add5] at c0 c1 c2 c3
      rw [addr_add5] at c1 c2 c3
      exact ⟨c0, c1, c2, c3⟩
    · obtain ⟨i, hi, rfl⟩ := List.mem_map.1 hr
      have := hq i (List.mem_range.1 hi)
      exact ⟨this.2.2.2.2.1, this.2.2.2.2.2⟩
end
end Go.Proofs.YtbfiggghpflioaaGreatDoor
namespace Go.Proofs.YtbfiggghpflioaaGreatDoor
open Go.RowKit

theorem nanInt_any (x : Int) (w : World) : Calls Tryz.prog 84 #[.int .i64 x] w fun e w' => e = .returned (.bool false) ∧ w' = w := by
  go_enter Tryz.func84, Tryz.ntmps84
  go_wp2
  go_ret
  exact ⟨by simp, rfl⟩
theorem nanStr_any (x : List UInt8) (w : World) : Calls Tryz.prog 85 #[.string (tx x)] w fun e w' => e = .returned (.bool false) ∧ w' = w := by
  go_enter Tryz.func85, Tryz.ntmps85
  go_wp2
  go_ret
  exact ⟨by simp, rfl⟩
/-- Below, above or alike. -/
def cmpI (x y : Int) : Int := if x < y then -1 else if y < x then 1 else 0
def cmpL (x y : List UInt8) : Int := if x < y then -1 else if y < x then 1 else 0

set_option maxHeartbeats 1000000 in
theorem cmpInt_any (x y : Int) (w : World) : Calls Tryz.prog 49 #[.int .i64 x, .int .i64 y] w fun e w' => e = .returned (.int .i64 (cmpI x y)) ∧ w' = w := by
  have HX := hid (nanInt_any x)
  have HY := hid (nanInt_any y)
  rcases Int.lt_trichotomy x y with h | h | h
  · have e := hid (show cmpI x y = -1 by unfold cmpI; rw [if_pos h])
    go_enter Tryz.func49, Tryz.ntmps49
    go_wp2_with (first | (go_at_call 84; refine (nanInt_any _ _).mono ?_; rintro e w' ⟨rfl, rfl⟩))
    go_ret
    exact ⟨by rw [e.out]; rfl, rfl⟩
  · subst h
    have e := hid (show cmpI x x = 0 by unfold cmpI; rw [if_neg (Int.lt_irrefl _), if_neg (Int.lt_irrefl _)])
    go_enter Tryz.func49, Tryz.ntmps49
    go_wp2_with (first | (go_at_call 84; refine (nanInt_any _ _).mono ?_; rintro e w' ⟨rfl, rfl⟩))
    go_ret
    exact ⟨by rw [e.out]; rfl, rfl⟩
  · have hn : ¬ x < y := by omega
    have e := hid (show cmpI x y = 1 by unfold cmpI; rw [if_neg hn, if_pos h])
    go_enter Tryz.func49, Tryz.ntmps49
    go_wp2_with (first | (go_at_call 84; refine (nanInt_any _ _).mono ?_; rintro e w' ⟨rfl, rfl⟩))
    go_ret
    exact ⟨by rw [e.out]; rfl, rfl⟩

set_option maxHeartbeats 1000000 in
theorem cmpStr_any (x y : List UInt8) (w : World) : Calls Tryz.prog 50 #[.string (tx x), .string (tx y)] w fun e w' => e = .returned (.int .i64 (cmpL x y)) ∧ w' = w := by
  by_cases h : x < y
  · have e := hid (show cmpL x y = -1 by unfold cmpL; rw [if_pos h])
    have h1 : Op.bytesLess x y = true := by rw [bytesLess_eq]; exact decide_eq_true h
    clear h
    go_enter Tryz.func50, Tryz.ntmps50
    go_wp2_with (first | (go_at_call 85; refine (nanStr_any _ _).mono ?_; rintro e w' ⟨rfl, rfl⟩))
    go_ret
    exact ⟨by rw [e.out]; rfl, rfl⟩
  · have h1 : Op.bytesLess x y = false := by rw [bytesLess_eq]; exact decide_eq_false h
    by_cases h2 : y < x
    · have e := hid (show cmpL x y = 1 by unfold cmpL; rw [if_neg h, if_pos h2])
      have h3 : (x == y) = false := by rw [beq_eq_false_iff_ne]; rintro rfl; exact h h2
      clear h h2
      go_enter Tryz.func50, Tryz.ntmps50
      go_wp2_with (first | (go_at_call 85; refine (nanStr_any _ _).mono ?_; rintro e w' ⟨rfl, rfl⟩))
      go_ret
      exact ⟨by rw [e.out]; rfl, rfl⟩
    · have e := hid (show cmpL x y = 0 by unfold cmpL; rw [if_neg h, if_neg h2])
      have h3 : (x == y) = true := by
        rw [beq_iff_eq]
        rcases Ru.lt_or h with q | q
        · exact absurd q h2
        · exact q
      clear h h2
      go_enter Tryz.func50, Tryz.ntmps50
      go_wp2_with (first | (go_at_call 85; refine (nanStr_any _ _).mono ?_; rintro e w' ⟨rfl, rfl⟩))
      go_ret
      exact ⟨by rw [e.out]; rfl, rfl⟩

set_option maxHeartbeats 1000000 in
/-- cmp.Or of two. -/
theorem cmpOr_two {w : World} {g : Nat} {a b : Int} (h0 : w.cell? ⟨g, 0, none⟩ = some (.int .i64 a)) (h1 : w.cell? ⟨g, 1, none⟩ = some (.int .i64 b)) : Calls Tryz.prog 48 #[.slice (some ⟨g, 0, none⟩) 2 2] w fun e w' => e = .returned (.int .i64 (if a = 0 then b else a)) ∧ w' = w := by
  by_cases ha : a = 0
  · rw [if_pos ha]
    subst ha
    by_cases hb : b = 0
    · subst hb
      go_enter Tryz.func48, Tryz.ntmps48
      go_wp2_with fail
      refine wp_loop_rounds 3 ?_
      rw [rounds_succ]
      go_wp2_with fail
      rw [rounds_succ]
      go_wp2_with fail
      rw [rounds_succ]
      go_wp2
      go_ret
      exact ⟨rfl, rfl⟩
    · go_enter Tryz.func48, Tryz.ntmps48
      go_wp2_with fail
      refine wp_loop_rounds 2 ?_
      rw [rounds_succ]
      go_wp2_with fail
      rw [rounds_succ]
      go_wp2
      go_ret
      exact ⟨rfl, rfl⟩
  · rw [if_neg ha]
    go_enter Tryz.func48, Tryz.ntmps48
    go_wp2_with fail
    refine wp_loop_rounds 1 ?_
    rw [rounds_succ]
    go_wp2
    go_ret
    exact ⟨rfl, rfl⟩
end Go.Proofs.YtbfiggghpflioaaGreatDoor
namespace Go.Proofs.YtbfiggghpflioaaGreatDoor
open Go.RowKit

set_option maxRecDepth 20000 in
set_option maxHeartbeats 2000000 in
theorem compare_any {w : World} {p q k l : Int} {m n : List UInt8} {ao bo : Option Addr} {la ca lb cb : Nat} :
    Calls Tryz.prog 28 #[.agg #[.int .i64 p, .string (tx m), .int .i64 k, .slice ao la ca], .agg #[.int .i64 q, .string (tx n), .int .i64 l, .slice bo lb cb]] w fun e w' => e = .returned (.int .i64 (if cmpI q p = 0 then cmpL m n else cmpI q p)) ∧ Below w.heap.size w w' := by
  have HI := hid (fun w' => cmpInt_any q p w')
  have HS := hid (fun w' => cmpStr_any m n w')
  obtain ⟨a, ha⟩ : ∃ a, a = cmpI q p := ⟨_, rfl⟩
  obtain ⟨b, hb⟩ : ∃ b, b = cmpL m n := ⟨_, rfl⟩
  rw [← ha] at HI ⊢
  rw [← hb] at HS ⊢
  obtain ⟨r, hr⟩ : ∃ r, r = (if a = 0 then b else a) := ⟨_, rfl⟩
  have HO := hid (fun (X : World) => cmpOr_two (w := (X.alloc (.cells #[.int .i64 a, .int .i64 b] 3)).drew) (g := X.heap.size) (a := a) (b := b) (by rw [cell_at (show ((X.alloc (.cells #[.int .i64 a, .int .i64 b] 3)).drew).heap[X.heap.size]? = some (.cells #[.int .i64 a, .int .i64 b] 3) from new_0 _ _)]; rfl) (by rw [cell_at (show ((X.alloc (.cells #[.int .i64 a, .int .i64 b] 3)).drew).heap[X.heap.size]? = some (.cells #[.int .i64 a, .int .i64 b] 3) from new_0 _ _)]; rfl))
  rw [← hr] at HO ⊢
  clear ha hb hr
  obtain ⟨X, hX⟩ : ∃ X, X = (w.alloc (rob p (tx m) k (.slice ao la ca))).alloc (rob q (tx n) l (.slice bo lb cb)) := ⟨_, rfl⟩
  have hXb0 : X.heap[w.heap.size]? = some (rob p (tx m) k (.slice ao la ca)) := by rw [hX]; exact new_old _ _ (new_0 w _)
  have hXb1 : X.heap[w.heap.size + 1]? = some (rob q (tx n) l (.slice bo lb cb)) := by rw [hX]; exact new_1 _ _ _
  have BX := hid (show Below w.heap.size w X by rw [hX]; exact ((Below.refl _ _).alloc (Nat.le_refl _) _).alloc (by simp) _)
  have SX := hid (fun (W : World) (h0 : W.heap[w.heap.size]? = some (rob p (tx m) k (.slice ao la ca))) (h1 : W.heap[w.heap.size + 1]? = some (rob q (tx n) l (.slice bo lb cb))) => And.intro (rob_cells h0).1 (And.intro (rob_cells h0).2.1 (And.intro (rob_cells h1).1 (rob_cells h1).2.1)))
  have S0 := hid (SX.out X hXb0 hXb1)
  have S1 := hid (fun (O : Obj) => SX.out (X.alloc O) (new_old _ _ hXb0) (new_old _ _ hXb1))
  clear hXb0 hXb1
  go_enter Tryz.func28, Tryz.ntmps28
  go_wp2_with fail
  rw [← hX]
  clear hX
  go_region_held2 (fun W => W.cell? ⟨w.heap.size, 0, none⟩ = some (.int .i64 p) ∧ W.cell? ⟨w.heap.size, 1, none⟩ = some (.string (tx m)) ∧ W.cell? ⟨w.heap.size + 1, 0, none⟩ = some (.int .i64 q) ∧ W.cell? ⟨w.heap.size + 1, 1, none⟩ = some (.string (tx n))) (first | exact S0.out | exact S1.out _ | assumption) (first | (go_at_call 49; refine (HI.out _).mono ?_; rintro en w2 ⟨rfl, rfl⟩) | (go_at_call 50; refine (HS.out _).mono ?_; rintro en w3 ⟨rfl, rfl⟩) | (go_at_call 48; refine (HO.out X).mono ?_; rintro en w4 ⟨rfl, rfl⟩))
  go_wp2
  go_ret
  exact ⟨rfl, (BX.out.alloc BX.out.size _).drew⟩
end Go.Proofs.YtbfiggghpflioaaGreatDoor
namespace Go.Proofs.YtbfiggghpflioaaGreatDoor
open Go.RowKit

/-- The first stands ahead: by its priority, else by its match. -/
def aheadB (p q : Int) (m n : List UInt8) : Bool := decide (q < p ∨ (p = q ∧ m < n))
theorem cmp_ahead (p q : Int) (m n : List UInt8) : decide ((if cmpI q p = 0 then cmpL m n else cmpI q p) < 0) = aheadB p q m n := by
  unfold aheadB cmpI cmpL
  by_cases h1 : q < p
  · rw [if_pos h1]
    have : ¬ ((-1 : Int) = 0) := by decide
    rw [if_neg this]
    simp [h1]
  · rw [if_neg h1]
    by_cases h2 : p < q
    · rw [if_pos h2]
      have : ¬ ((1 : Int) = 0) := by decide
      rw [if_neg this]
      have h3 : ¬ (q < p ∨ (p = q ∧ m < n)) := by omega
      rw [decide_eq_false h3]; decide
    · rw [if_neg h2, if_pos rfl]
      have e : p = q := by omega
      by_cases h3 : m < n
      · rw [if_pos h3, decide_eq_true (Or.inr ⟨e, h3⟩)]; decide
      · rw [if_neg h3, decide_eq_false (show ¬ (q < p ∨ (p = q ∧ m < n)) from fun z => by rcases z with z | z; omega; exact h3 z.2)]
        split <;> decide

set_option maxRecDepth 20000 in
set_option maxHeartbeats 2000000 in
theorem Ahead_any {w : World} {p q k l : Int} {m n : List UInt8} {ao bo : Option Addr} {la ca lb cb : Nat} :
    Calls Tryz.prog 174 #[.agg #[.int .i64 p, .string (tx m), .int .i64 k, .slice ao la ca], .agg #[.int .i64 q, .string (tx n), .int .i64 l, .slice bo lb cb]] w fun e w' => e = .returned (.bool (aheadB p q m n)) ∧ Below w.heap.size w w' := by
  have HC := hid (fun w' => compare_any (w := w') (p := p) (q := q) (k := k) (l := l) (m := m) (n := n) (ao := ao) (bo := bo) (la := la) (ca := ca) (lb := lb) (cb := cb))
  have HE := hid (cmp_ahead p q m n)
  obtain ⟨r, hr⟩ : ∃ r, r = (if cmpI q p = 0 then cmpL m n else cmpI q p) := ⟨_, rfl⟩
  rw [← hr] at HC HE
  clear hr
  rw [← HE.out]
  clear HE
  go_enter Tryz.func174, Tryz.ntmps174
  go_wp2_with fail
  refine (HC.out _).mono ?_
  rintro en w1 ⟨rfl, hb1⟩
  have B1 := hid (show Below w.heap.size w w1 from (((Below.refl _ _).alloc (Nat.le_refl _) _).alloc (by simp) _).trans (hb1.mono (by simp; omega)))
  clear hb1
  go_wp2
  go_ret
  exact ⟨rfl, B1.out⟩

set_option maxRecDepth 20000 in
set_option maxHeartbeats 2000000 in
theorem RAhead_any {w : World} {p q k l : Int} {m n : List UInt8} {ao bo : Option Addr} {la ca lb cb : Nat} :
    Calls Tryz.prog 30 #[.agg #[.int .i64 p, .string (tx m), .int .i64 k, .slice ao la ca], .agg #[.int .i64 q, .string (tx n), .int .i64 l, .slice bo lb cb]] w fun e w' => e = .returned (.bool (aheadB p q m n)) ∧ Below w.heap.size w w' := by
  have BX := hid (show Below w.heap.size w ((w.alloc (rob p (tx m) k (.slice ao la ca))).alloc (rob q (tx n) l (.slice bo lb cb))) from ((Below.refl _ _).alloc (Nat.le_refl _) _).alloc (by simp) _)
  by_cases h : p = q
  · subst h
    have HE := hid (show aheadB p p m n = Op.bytesLess m n by unfold aheadB; rw [bytesLess_eq]; simp)
    rw [HE.out]
    clear HE
    go_enter Tryz.func30, Tryz.ntmps30
    go_wp2
    go_ret
    exact ⟨rfl, BX.out⟩
  · have HE := hid (show aheadB p q m n = decide (q < p) by unfold aheadB; simp [h])
    rw [HE.out]
    clear HE
    have hne : (p == q) = false := by rw [beq_eq_false_iff_ne]; exact h
    go_enter Tryz.func30, Tryz.ntmps30
    go_wp2
    go_ret
    exact ⟨rfl, BX.out⟩
end Go.Proofs.YtbfiggghpflioaaGreatDoor
namespace Go.Proofs.YtbfiggghpflioaaGreatDoor
open Go.RowKit

/-- Two rules, compared. -/
def cmpR (a b : Raw) : Int := if cmpI b.prio a.prio = 0 then cmpL a.mat b.mat else cmpI b.prio a.prio

theorem block_old {w : World} {a : Addr} {v : Value} (h : w.cell? a = some v) : a.block < w.heap.size := World.block_lt_of_cell? w _ h

set_option maxRecDepth 20000 in
set_option maxHeartbeats 2000000 in
theorem order_cmp {w : World} {g o n cap i j c : Nat} {ps : List (Raw × Value)} (hv : w.cell? ⟨c, 0, none⟩ = some (.slice (some ⟨g, o, none⟩) n cap)) (h : RawView w g o ps) (hn : ps.length = n) {a b : Raw × Value} (ha : ps[i]? = some a) (hb : ps[j]? = some b) :
    Calls Tryz.prog 27 #[.int .i64 i, .int .i64 j, .pointer (some ⟨c, 0, none⟩)] w fun e w' => e = .returned (.int .i64 (cmpR a.1 b.1)) ∧ Below w.heap.size w w' := by
  obtain ⟨a0, a1, a2, a3⟩ := h.cell i a ha
  obtain ⟨b0, b1, b2, b3⟩ := h.cell j b hb
  have hi : i < n := by rw [← hn]; exact (List.getElem?_eq_some_iff.1 ha).1
  have hj : j < n := by rw [← hn]; exact (List.getElem?_eq_some_iff.1 hb).1
  have pa := (h.ports a (List.mem_of_getElem? ha)).1
  have pb := (h.ports b (List.mem_of_getElem? hb)).1
  obtain ⟨⟨p, m, k, za⟩, va⟩ := a
  obtain ⟨⟨q, m', l, zb⟩, vb⟩ := b
  simp only at a0 a1 a2 a3 b0 b1 b2 b3 pa pb
  obtain ⟨ao, ca, rfl, _⟩ := pa
  obtain ⟨bo, cb, rfl, _⟩ := pb
  have HC := hid (fun w' => compare_any (w := w') (p := p) (q := q) (k := k) (l := l) (m := m) (n := m') (ao := ao) (bo := bo) (la := za.length) (ca := ca) (lb := zb.length) (cb := cb))
  obtain ⟨r, hr⟩ : ∃ r, r = (if cmpI q p = 0 then cmpL m m' else cmpI q p) := ⟨_, rfl⟩
  show Calls _ _ _ _ fun e w' => e = .returned (.int .i64 (if cmpI q p = 0 then cmpL m m' else cmpI q p)) ∧ Below w.heap.size w w'
  rw [← hr] at HC ⊢
  clear ha hb h hn hr
  have i0 : (0 : Int) ≤ (i : Int) := by omega
  have i1 : (i : Int) < (n : Int) := by omega
  have j0 : (0 : Int) ≤ (j : Int) := by omega
  have j1 : (j : Int) < (n : Int) := by omega
  go_enter Tryz.func27, Tryz.ntmps27
  go_wp2_with fail
  go_region_held2 (fun W => W.cell? ⟨c, 0, none⟩ = some (.slice (some ⟨g, o, none⟩) n cap) ∧ W.cell? ⟨g, o + i * 4, none⟩ = some (.int .i64 p) ∧ W.cell? ⟨g, o + i * 4 + 1, none⟩ = some (.string (tx m)) ∧ W.cell? ⟨g, o + i * 4 + 2, none⟩ = some (.int .i64 k) ∧ W.cell? ⟨g, o + i * 4 + 3, none⟩ = some (.slice ao za.length ca) ∧ W.cell? ⟨g, o + j * 4, none⟩ = some (.int .i64 q) ∧ W.cell? ⟨g, o + j * 4 + 1, none⟩ = some (.string (tx m')) ∧ W.cell? ⟨g, o + j * 4 + 2, none⟩ = some (.int .i64 l) ∧ W.cell? ⟨g, o + j * 4 + 3, none⟩ = some (.slice bo zb.length cb)) (first | exact ⟨hv, a0, a1, a2, a3, b0, b1, b2, b3⟩ | exact hS2) (first | (go_at_call 28; refine (HC.out _).mono ?_; rintro en w2 ⟨rfl, hb2⟩; have B2 := hid hb2; have hS2 := And.intro ((hb2.cell (block_old hv)).trans hv) (And.intro ((hb2.cell (block_old a0)).trans a0) (And.intro ((hb2.cell (block_old a1)).trans a1) (And.intro ((hb2.cell (block_old a2)).trans a2) (And.intro ((hb2.cell (block_old a3)).trans a3) (And.intro ((hb2.cell (block_old b0)).trans b0) (And.intro ((hb2.cell (block_old b1)).trans b1) (And.intro ((hb2.cell (block_old b2)).trans b2) ((hb2.cell (block_old b3)).trans b3)))))))); clear hb2))
  go_wp2
  go_ret
  exact ⟨rfl, (Below.refl w.heap.size w).drew.trans (show Below w.heap.size w.drew w2 from B2.out)⟩
end Go.Proofs.YtbfiggghpflioaaGreatDoor
