/-
  Proved: for every expression the law RegexPrints answers true (Print, Size and Check answer as the document's own reckoning: the same text, the same numbers), and leaves its argument as it was. Conditions: the tables of Go's library and of the program start as the program's text lays them (the card's tie); none on the expression.
  An expression that came in as an argument, opened.
  The law's own run.
-/
import Derived.Test.YtplbgfljmbiboaaGreatDoorZTakeAnd
import Derived.Test.YtplbgfljmbiboaaGreatDoorZGoesAnd
import Derived.Test.YtplbgfljmbiboaaGreatDoorWKindAnd
import Derived.WalkKit
import Derived.ProofKit
import Derived.OpenShut
import Derived.ShutString
import Derived.Deep.Slices
import Derived.ChangeArms
import Derived.SliceStrings
import Derived.Test.YtplbgfljmbiboaaGreatDoorRows
import Derived.Test.YtplbgfljmbiboaaGreatDoorCards
import Derived.Test.YtplbgfljmbiboaaGreatDoorTie
import Derived.Lay
import Derived.LaidOnce
import Derived.SevenTiedAt
import Derived.LaidSub
import Derived.MakeChecks
namespace Go.Proofs.YtplbgfljmbiboaaGreatDoor
open Go.RowKit

theorem z_fit : zR.Fit := by
  simp [Rx.Fit, Rx.all_eq, Rx.kids, Rx.name, maxLen]
theorem z_chk : chkN zR = 0 := by
  have h1 : Wo.nameB [97] = true := by kernel_rfl
  have h2 : Wo.nameB [98] = true := by kernel_rfl
  have h3 : Wo.nameB [99] = true := by kernel_rfl
  have h4 : Wo.nameB [99, 111, 114, 101] = true := by kernel_rfl
  simp [chkN, Rx.nodes_eq, Rx.deep_eq, Rx.all_eq, Rx.kids, nodeB, Rx.op, Rx.name, noneB, h1, h2, h3, h4]
theorem z_wds : zR.wds = [[97], [46], [42], [36], [99, 111, 114, 101], [40], [98], [124], [99], [41], [43]] := by
  simp [Rx.wds, tg, kwd, altW, sgn1, Rx.op, Rx.kids]
theorem z_prs : prS zR = zText := by
  unfold prS
  rw [if_pos z_chk, z_wds]
  decide
theorem z_yes : matchB zR [([97], []), ([113], [[99, 111, 114, 101]]), ([99], [])] = true := by
  simp [matchB, runS, Sp.of, Sp.take, noneS, firsts, endsR, fitB, Sp.em, Sp.en]
theorem z_no : matchB zR [([97], []), ([99], [])] = false := by
  simp [matchB, runS, Sp.of, Sp.take, noneS, firsts, endsR, fitB, Sp.em, Sp.en]

theorem z_path1 (w : World) : PathAt ((w.alloc (.cells #[.string (tx [99, 111, 114, 101])] 9)).alloc (.cells #[.string (tx [97]), .slice none 0 0, .string (tx [113]), .slice (some ⟨w.heap.size, 0, none⟩) 1 1, .string (tx [99]), .slice none 0 0] 66)) (.slice (some ⟨w.heap.size + 1, 0, none⟩) 3 3) [([97], []), ([113], [[99, 111, 114, 101]]), ([99], [])] := by
  refine ⟨_, 3, rfl, Or.inr ⟨w.heap.size + 1, 0, rfl, by simp, fun i p hp => ?_⟩⟩
  have hb := new_1 w (.cells #[.string (tx [99, 111, 114, 101])] 9) (.cells #[.string (tx [97]), .slice none 0 0, .string (tx [113]), .slice (some ⟨w.heap.size, 0, none⟩) 1 1, .string (tx [99]), .slice none 0 0] 66)
  match i, hp with
  | 0, hp =>
    simp at hp
    subst hp
    exact ⟨by simp, none, 0, 0, by rw [cell_at hb]; rfl, by rw [cell_at hb]; rfl, Txs.nil _ _ _⟩
  | 1, hp =>
    simp at hp
    subst hp
    refine ⟨by simp [maxLen], some ⟨w.heap.size, 0, none⟩, 1, 1, by rw [cell_at hb]; rfl, by rw [cell_at hb]; rfl, _, 1, rfl, Or.inr ⟨w.heap.size, 0, rfl, by simp; omega, fun j hj => ?_⟩⟩
    have hj0 : j = 0 := by simp at hj; omega
    subst hj0
    rw [cell_at (new_old _ _ (new_0 w _))]
    rfl
  | 2, hp =>
    simp at hp
    subst hp
    exact ⟨by simp, none, 0, 0, by rw [cell_at hb]; rfl, by rw [cell_at hb]; rfl, Txs.nil _ _ _⟩
theorem z_path2 (w : World) : PathAt (w.alloc (.cells #[.string (tx [97]), .slice none 0 0, .string (tx [99]), .slice none 0 0] 66)) (.slice (some ⟨w.heap.size, 0, none⟩) 2 2) [([97], []), ([99], [])] := by
  refine ⟨_, 2, rfl, Or.inr ⟨w.heap.size, 0, rfl, by simp, fun i p hp => ?_⟩⟩
  have hb := new_0 w (.cells #[.string (tx [97]), .slice none 0 0, .string (tx [99]), .slice none 0 0] 66)
  match i, hp with
  | 0, hp =>
    simp at hp
    subst hp
    exact ⟨by simp, none, 0, 0, by rw [cell_at hb]; rfl, by rw [cell_at hb]; rfl, Txs.nil _ _ _⟩
  | 1, hp =>
    simp at hp
    subst hp
    exact ⟨by simp, none, 0, 0, by rw [cell_at hb]; rfl, by rw [cell_at hb]; rfl, Txs.nil _ _ _⟩

set_option maxRecDepth 20000 in
set_option maxHeartbeats 4000000 in
theorem awake9 : Awake9 := by
  intro w
  have HP := hid (fun (W : World) => (by
    have := gParse_ok (w := W) (s := zText) (ls := Wo.read zText) (A := []) (P := zP) (by decide) rfl z_read.1 (by have h := congrArg List.length z_read.2.1; rw [List.length_map] at h; rw [h]; decide) (by rw [z_read.2.2]; decide) (by rw [z_read.2.1]; exact z_goes) (by simp) (by simp [nodesL, Rx.nodes_eq, Rx.kids]) (by rw [z_whole]; exact z_fit) (by rw [z_whole]; exact z_chk)
    rw [z_whole] at this
    exact this : Calls Tryz.prog 15 #[.string (tx zText)] W fun e w' => ∃ u n c, e = .returned (.tuple #[.agg #[.int .i64 zR.op, .string (tx zR.name), .slice u n c], .int .i64 0, .int .i64 0, .int .i64 0]) ∧ Hid (RxS w' (.slice u n c) zR.kids) ∧ Below W.heap.size W w'))
  have HPR := hid (fun (W : World) (v : Value) (hS : RxS W v zR.kids) => (by
    have := gPrint_any hS z_fit
    rw [z_prs, z_chk] at this
    exact this : Calls Tryz.prog 8 #[.agg #[.int .i64 zR.op, .string (tx zR.name), v]] W fun e w' => e = .returned (.tuple #[.string (tx zText), .int .i64 ((0 : Nat) : Int)]) ∧ Below W.heap.size W w'))
  have HM1 := hid (fun (W : World) (v vp : Value) (hS : RxS W v zR.kids) (hp : PathAt W vp [([97], []), ([113], [[99, 111, 114, 101]]), ([99], [])]) => (by
    have := gMatch_ok hS z_fit z_chk hp (by decide) (by simp)
    rw [z_yes] at this
    exact this : Calls Tryz.prog 19 #[.agg #[.int .i64 zR.op, .string (tx zR.name), v], vp] W fun e w' => e = .returned (.tuple #[.bool true, .int .i64 0]) ∧ Below W.heap.size W w'))
  have HM2 := hid (fun (W : World) (v vp : Value) (hS : RxS W v zR.kids) (hp : PathAt W vp [([97], []), ([99], [])]) => (by
    have := gMatch_ok hS z_fit z_chk hp (by decide) (by simp)
    rw [z_no] at this
    exact this : Calls Tryz.prog 19 #[.agg #[.int .i64 zR.op, .string (tx zR.name), v], vp] W fun e w' => e = .returned (.tuple #[.bool false, .int .i64 0]) ∧ Below W.heap.size W w'))
  rw [show zR.op = 4 from rfl, show zR.name = [] from rfl] at HP HPR HM1 HM2
  go_enter Tryz.func14, Tryz.ntmps14
  go_wp2_with fail
  refine (HP.out _).mono ?_
  rintro en w1 ⟨u, n, c, rfl, X1, hb1⟩
  obtain ⟨uo, uc, hun, -⟩ := X1.out.at
  cases hun
  rw [show zR.kids.length = 4 from rfl] at *
  have HX := hid (fun (W : World) (hb : Below w1.heap.size w1 W) => X1.out.on hb)
  clear X1
  have HB1 := hid hb1
  clear hb1
  go_wp2_with fail
  refine (HPR.out _ _ (HX.out _ ((Below.refl _ _).alloc (Nat.le_refl _) _))).mono ?_
  rintro en w2 ⟨rfl, hb2⟩
  have hs2 : w1.heap.size + 1 ≤ w2.heap.size := by have := hb2.size; simpa using this
  have hbx := (hb2.block w1.heap.size (by simp)).trans (new_0 _ _)
  have x0 : w2.cell? ⟨w1.heap.size, 0, none⟩ = some (.int .i64 4) := by rw [cell_at hbx]; rfl
  have x1 : w2.cell? ⟨w1.heap.size, 1, none⟩ = some (.string (tx [])) := by rw [cell_at hbx]; rfl
  have x2 : w2.cell? ⟨w1.heap.size, 2, none⟩ = some (.slice u 4 c) := by rw [cell_at hbx]; rfl
  have B2 := hid (show Below w1.heap.size w1 w2 from ((Below.refl _ _).alloc (Nat.le_refl _) _).trans (hb2.mono (by simp)))
  have BX := hid hbx
  clear hb2 hbx
  have HQ1 := hid (fun (o1 o2 : Obj) => (B2.out.alloc (by omega) o1).alloc (by simp; omega) o2)
  go_wp2_with fail
  refine (HM1.out _ _ _ (HX.out _ (HQ1.out _ _)) (z_path1 w2)).mono ?_
  rintro en w3 ⟨rfl, hb3⟩
  have B3 := hid (show Below w1.heap.size w1 w3 from (HQ1.out (.cells #[.string (tx [99, 111, 114, 101])] 9) (.cells #[.string (tx [97]), .slice none 0 0, .string (tx [113]), .slice (some ⟨w2.heap.size, 0, none⟩) 1 1, .string (tx [99]), .slice none 0 0] 66)).trans (hb3.mono (by simp; omega)))
  have hs3 : w2.heap.size + 2 ≤ w3.heap.size := by have := hb3.size; simpa using this
  have hbx := (hb3.block w1.heap.size (by simp; omega)).trans ((Below.heap_alloc _ _ _ (by simp; omega)).trans ((Below.heap_alloc _ _ _ (by omega)).trans BX.out))
  clear x0 x1 x2
  have x0 : w3.cell? ⟨w1.heap.size, 0, none⟩ = some (.int .i64 4) := by rw [cell_at hbx]; rfl
  have x1 : w3.cell? ⟨w1.heap.size, 1, none⟩ = some (.string (tx [])) := by rw [cell_at hbx]; rfl
  have x2 : w3.cell? ⟨w1.heap.size, 2, none⟩ = some (.slice u 4 c) := by rw [cell_at hbx]; rfl
  clear hb3 hbx
  have HQ2 := hid (fun (o1 : Obj) => B3.out.alloc (by omega) o1)
  go_wp2_with fail
  refine (HM2.out _ _ _ (HX.out _ (HQ2.out _)) (z_path2 w3)).mono ?_
  rintro en w4 ⟨rfl, hb4⟩
  have B4 := hid (show Below w.heap.size w w4 from below_2x HB1.out ((HQ2.out (.cells #[.string (tx [97]), .slice none 0 0, .string (tx [99]), .slice none 0 0] 66)).trans (hb4.mono (by simp; omega))))
  clear hb4
  go_wp2
  try (go_quiet (fail); go_wp2)
  go_ret
  exact ⟨rfl, B4.out⟩
end Go.Proofs.YtplbgfljmbiboaaGreatDoor
namespace Go.Proofs.YtplbgfljmbiboaaGreatDoor
open Go.ChangeShapes Go.WideShapes Go.ChangeAt Go.RowKit

theorem structOfX {P : Program} {t : TypeId} {l : List (TypeId × Nat)} (h : (match P.underlying t with | some (.struct fs) => decide (fs.toList.map (fun f => (f.type, f.offset)) = l) | _ => false) = true) : ∃ fs, P.underlying t = some (.struct fs) ∧ fs.toList.map (fun f => (f.type, f.offset)) = l := by
  split at h
  · rename_i fs e
    exact ⟨fs, e, of_decide_eq_true h⟩
  · cases h
theorem fieldOfX {fs : Array Field} {l : List (TypeId × Nat)} (h : fs.toList.map (fun f => (f.type, f.offset)) = l) {i : Nat} {ty : TypeId} {off : Nat} (hi : l[i]? = some (ty, off)) : ∃ f, fs[i]? = some f ∧ f.type = ty ∧ f.offset = off := by
  rw [← h, List.getElem?_map, Option.map_eq_some_iff] at hi
  obtain ⟨f, hf, e⟩ := hi
  simp only [Prod.mk.injEq] at e
  exact ⟨f, by simpa using hf, e.1, e.2⟩
theorem addrAddX (g o i : Nat) : (⟨g, o, none⟩ : Addr).add i = ⟨g, o + i, none⟩ := by
  unfold Addr.add; split <;> simp_all
theorem addrOfX {w : World} {a : Addr} {v : Value} (h : w.cell? (a.add 0) = some v) : (∃ g o, a = ⟨g, o, none⟩) ∧ a.block < w.heap.size := by
  have e : a.add 0 = a := by unfold Addr.add; simp
  rw [e] at h
  obtain ⟨g, o, sp⟩ := a
  have hlt : g < w.heap.size := World.block_lt_of_cell? w _ h
  refine ⟨?_, hlt⟩
  cases sp with
  | none => exact ⟨g, o, rfl⟩
  | some s =>
    exfalso
    unfold World.cell? at h
    simp only [Option.isSome_some, if_true] at h
    split at h <;> cases h
theorem Rx.Fit.mk {r : Rx} (h : r.name.length ≤ maxLen) (hk : ∀ k ∈ r.kids, k.Fit) : r.Fit := (Rx.all_iff _ _).2 ⟨decide_eq_true h, hk⟩

section
variable {H : Type} {enc : TypeId × Value → H} {w : World} {base : Nat} {spare : Nat → Bool} {held : Bool}

set_option maxRecDepth 100000 in
theorem open_regex (fuel : Nat) : ∀ {cs : List Value} {x : DataW H × List MemPlace}, DataW.trod enc Tryz.prog w base spare held fuel 25 cs = some x → ∃ (r : Rx) (v : Value), cs = [.int .i64 r.op, .string (tx r.name), v] ∧ RxS w v r.kids ∧ r.Fit := by
  induction fuel using Nat.strongRecOn with
  | ind fuel ih =>
    intro cs x h
    obtain ⟨fs, hfs, hl⟩ := structOfX (P := Tryz.prog) (t := 25) (l := [(22, 0), (9, 1), (23, 2)]) (by kernel_rfl)
    obtain ⟨xs, n, hn, _, hlen, hxl, hf⟩ := DataW.trod_struct hfs h
    have hc : Tryz.prog.cellsOf 25 = 3 := by kernel_rfl
    rw [hc] at hlen
    have hsz : fs.size = 3 := by have := congrArg List.length hl; simpa using this
    match cs, hlen with
    | [c0, c1, c2], _ =>
      obtain ⟨f0, e0, t0, o0⟩ := fieldOfX hl (i := 0) rfl
      obtain ⟨f1, e1, t1, o1⟩ := fieldOfX hl (i := 1) rfl
      obtain ⟨f2, e2, t2, o2⟩ := fieldOfX hl (i := 2) rfl
      have g0 := hf 0 f0 e0
      have g1 := hf 1 f1 e1
      have g2 := hf 2 f2 e2
      rw [t0, o0, show Tryz.prog.cellsOf 22 = 1 by kernel_rfl, List.getElem?_eq_getElem (show 0 < xs.length by omega)] at g0
      rw [t1, o1, show Tryz.prog.cellsOf 9 = 1 by kernel_rfl, List.getElem?_eq_getElem (show 1 < xs.length by omega)] at g1
      rw [t2, o2, show Tryz.prog.cellsOf 23 = 1 by kernel_rfl, List.getElem?_eq_getElem (show 2 < xs.length by omega)] at g2
      obtain ⟨p, hp, _, _⟩ := DataW.trod_int (k := .i64) (by kernel_rfl) g0
      obtain ⟨m, hm1, _, hms⟩ := DataW.trod_string Tryz.underlying9 g1
      simp at hp hm1
      subst hp hm1
      have g2' : DataW.trod enc Tryz.prog w base spare held n 23 [c2] = some xs[2] := by simpa using g2
      have hmn : m.data.toList.length ≤ maxLen := by rw [list_size]; exact hms
      rcases DataW.trod_slice Tryz.underlying23 g2' with ⟨hcs, _⟩ | ⟨a, len, cap, elems, rest, n2, hn2, hcs, _, _, hlc, _, hel, helem, _, _⟩
      · simp only [List.cons.injEq, and_true] at hcs
        refine ⟨.mk p m.data.toList [], c2, rfl, by rw [hcs]; exact .nil _ _, Rx.Fit.mk hmn fun k hk => absurd hk (by simp [Rx.kids])⟩
      · simp only [List.cons.injEq, and_true] at hcs
        subst hcs
        rw [hc] at helem
        have each : ∀ i, i < len → ∃ q : Rx × Value, w.cell? (a.add (i * 3)) = some (.int .i64 q.1.op) ∧ w.cell? ((a.add (i * 3)).add 1) = some (.string (tx q.1.name)) ∧ w.cell? ((a.add (i * 3)).add 2) = some q.2 ∧ RxS w q.2 q.1.kids ∧ q.1.Fit := by
          intro i hi
          have h1 := helem i hi
          rw [List.getElem?_eq_getElem (show i < elems.length by omega), Option.bind_eq_some_iff] at h1
          obtain ⟨cs', h2, h3⟩ := h1
          obtain ⟨_, _, hcell⟩ := World.cells?_some h2
          obtain ⟨r, v, rfl, h4, h5⟩ := ih n2 (by omega) h3
          have c0 := hcell 0 (by omega)
          have c1 := hcell 1 (by omega)
          have c2 := hcell 2 (by omega)
          have e0 : (a.add (i * 3)).add 0 = a.add (i * 3) := by unfold Addr.add; simp
          rw [e0] at c0
          exact ⟨(r, v), c0, c1, c2, h4, h5⟩
        by_cases h0 : len = 0
        · subst h0
          exact ⟨.mk p m.data.toList [], _, rfl, .nil _ _, Rx.Fit.mk hmn fun k hk => absurd hk (by simp [Rx.kids])⟩
        have : Inhabited (Rx × Value) := ⟨(.mk 0 [] [], .bool false)⟩
        obtain ⟨q, hq⟩ := Go.Deep.choose_lt each
        obtain ⟨⟨g, o, rfl⟩, hb⟩ := addrOfX (v := .int .i64 (q 0).1.op) (by have := (hq 0 (by omega)).1; rw [Nat.zero_mul] at this; exact this)
        have hkl : ((List.range len).map fun i => (q i).1).length = len := by simp
        refine ⟨.mk p m.data.toList ((List.range len).map fun i => (q i).1), _, rfl, ?_, Rx.Fit.mk hmn fun k hk => ?_⟩
        · show RxS w (.slice (some ⟨g, o, none⟩) len cap) ((List.range len).map fun i => (q i).1)
          have hs := RxS.some (w := w) g o cap ((List.range len).map fun i => (q i).1) ((List.range len).map fun i => (q i).2) hb (by simp) (fun i k v hk hv => ?_) (fun i k v hk hv => ?_)
          · rw [hkl] at hs; exact hs
          · rw [List.getElem?_map, Option.map_eq_some_iff] at hk hv
            obtain ⟨i', hi', rfl⟩ := hk
            obtain ⟨i'', hi'', rfl⟩ := hv
            rw [hi'] at hi''
            cases hi''
            obtain ⟨hi, rfl⟩ := List.getElem?_eq_some_iff.1 hi'
            simp only [List.length_range] at hi
            simp only [List.getElem_range]
            obtain ⟨c0, c1, c2, _, _⟩ := hq i hi
            rw [addrAddX] at c0 c1 c2
            rw [addrAddX] at c1 c2
            exact ⟨c0, c1, c2⟩
          · rw [List.getElem?_map, Option.map_eq_some_iff] at hk hv
            obtain ⟨i', hi', rfl⟩ := hk
            obtain ⟨i'', hi'', rfl⟩ := hv
            rw [hi'] at hi''
            cases hi''
            obtain ⟨hi, rfl⟩ := List.getElem?_eq_some_iff.1 hi'
            simp only [List.length_range] at hi
            simp only [List.getElem_range]
            exact (hq i hi).2.2.2.1
        · obtain ⟨i, hi, rfl⟩ := List.mem_map.1 (show k ∈ (List.range len).map fun i => (q i).1 from hk)
          exact (hq i (List.mem_range.1 hi)).2.2.2.2
end
end Go.Proofs.YtplbgfljmbiboaaGreatDoor
namespace Go.Proofs.YtplbgfljmbiboaaGreatDoor
open Go.ChangeShapes Go.WideShapes Go.ChangeAt Go.RowKit
open Go.ChangeMaps (open_string shut_string)

theorem ZCPrt.laidOut : laidOutB Tryz.prog = true := by kernel_rfl
theorem ZCPrt.own : ownKnob Tryz.prog.godebug = none := by kernel_rfl
theorem ZCPrt.one {v0 : Value} {args : Array Value} {l : List Value} (h : args.toList = v0 :: l) (h1 : l = []) : args = #[v0] := by
  subst h1
  obtain ⟨a⟩ := args
  simp only at h
  rw [h]

set_option maxRecDepth 100000 in
set_option maxHeartbeats 2000000 in
theorem ZCPrt.lifted (os : Os) (started : os.Started) (H : Type) (enc : TypeId × Value → H) :
    ReturnsInHanded {} Tryz.checked os 3 .any (fun w args => (Rows.regexPrintsSpec.pre enc Tryz.prog Tryz.f3 [] false w args ∧ laidMetH Tryz.prog Rows.regexPrintsRow.laid w) ∧ sizedMet enc Tryz.prog Tryz.f3 (OpenSpec.ofChange Rows.regexPrintsSpec) false w args)
      (Rows.regexPrintsSpec.post enc Tryz.prog Tryz.f3 false true false false) := by
  refine returnsInHanded_of_change_and (C := Tryz.checked) (X := fun w _ => laidMetH Tryz.prog Rows.regexPrintsRow.laid w) (fun _ _ _ hh h => h.of_heap hh) ZCPrt.own started (by kernel_rfl) Tryz.func3
    (ChangeSpec.witness_shaped (enc := enc) (C := Tryz.checked) (os := os) (X := fun w _ => laidMetH Tryz.prog Rows.regexPrintsRow.laid w) false (World.laidAll Tryz.prog os Rows.regexPrintsRow.laid) #[.agg #[.int .i64 0, .string ByteArray.empty, .slice none 0 0]] 8 (World.laidAll_os _ _ _)
      (World.shaped_of_ZipB (by kernel_rfl) (by kernel_rfl)) (by kernel_rfl) (by kernel_rfl) (by kernel_rfl)
      (by rw [MakeChecks.laidMetH_plain _ _ _ (by kernel_rfl)]; exact laidMet_laidAll _ (by kernel_rfl) (by kernel_rfl))) ?_
  intro W base args ds gs before hval0 hW _ hsz hL _
  have hval : ∀ (j : Nat) t v, Tryz.f3.params[j]? = some t → args[j]? = some v → Value.okWide Tryz.prog W .any base t v := hval0
  have hW' := hW
  obtain ⟨p, q, hA0, hV, rfl, _, _⟩ := hW
  have hA : DataW.TrodAll enc Tryz.prog W 0 (fun _ => true) true Tryz.f3.params.toList args.toList ds p := hA0
  rw [Tryz.params3] at hA hval
  obtain ⟨v0, vs0, d0, ds0, p0, q0, hargs, rfl, rfl, h0, r0⟩ := trodAll_cons hA
  obtain ⟨hnil, rfl, rfl⟩ := trodAll_nil r0
  obtain rfl := ZCPrt.one hargs hnil
  obtain ⟨rfl, rfl⟩ := trodVars_none hV
  obtain ⟨fs, hfs, _⟩ := structOfX (P := Tryz.prog) (t := 25) (l := [(22, 0), (9, 1), (23, 2)]) (by kernel_rfl)
  obtain ⟨cs, rfl, hcs⟩ := okWide_struct hfs (hval 0 25 v0 rfl rfl)
  have k0 := h0
  have lt0 : ∀ x ∈ p0, x.block < W.heap.size := by obtain ⟨m, hm⟩ := k0; exact DataW.trod_lt m _ _ _ hm
  obtain ⟨r, v, hr, hS, hF⟩ : ∃ (r : Rx) (v : Value), cs = #[.int .i64 r.op, .string (tx r.name), v] ∧ RxS W v r.kids ∧ r.Fit := by
    obtain ⟨m, hm⟩ := h0
    obtain ⟨r, v, h1, h2, h3⟩ := open_regex m hm
    refine ⟨r, v, ?_, h2, h3⟩
    apply Array.toList_inj.1
    simpa [Value.cells] using h1
  subst hr
  simp only [List.append_nil] at hW'
  refine (prints_any hS hF awake9).mono fun e W' ⟨he, hb⟩ => ?_
  subst he
  exact ⟨_, rfl, _, _, _, [], _, [], hW', trodAll_mk1 (shut_bool Tryz.underlying4 _), (trodAll_cons_mk (Below.trod ZCPrt.laidOut (by kernel_rfl) (of_decide_eq_true (by kernel_rfl)) k0 hb lt0) trodAll_mk0), rfl, hb.frame _, fun h => by cases h⟩

theorem ZCPrt.holds : Rows.RegexPrintsSaid :=
  OpenClaim.holds_of_wide 3 Tryz.f3 rfl rfl rfl rfl rfl rfl rfl ⟨rfl, rfl, rfl, rfl, rfl⟩ rfl rfl rfl rfl rfl (by kernel_rfl) Tryz.func3 (by kernel_rfl)
    (of_decide_eq_true (by kernel_rfl)) (by unfold Func.isWrapper; first | (rw [if_pos (by decide +kernel)]; kernel_rfl) | (rw [if_neg (by decide +kernel)]; exact ⟨rfl, rfl⟩))
    (fun os started H enc _ => ZCPrt.lifted os started H enc)

theorem RegexPrints_holds : Rows.RegexPrintsCardSaid :=
  Claim7.holds_tied_plain_at .later [] [.data, .pinned] true (true, "a6601d23f094c93534be1edba3855d570ddf2a0c27ea29f2c4f01eecda35024c") false ZCPrt.holds (fun _ h => by cases h) (by kernel_rfl) (fun _ h => by cases h) regexPrints_row_tie rfl ⟨rfl, rfl⟩ (by kernel_rfl) rfl
    (fun f fn hf hfn => by
      obtain rfl : f = 3 := Option.some.inj ((show Tryz.prog.funcNamed "milestone/milestonelaw09.RegexPrints" = some 3 by kernel_rfl).symm.trans hf) |>.symm
      obtain rfl : fn = Tryz.f3 := (Option.some.inj (Tryz.func3.symm.trans hfn)).symm
      exact ⟨by kernel_rfl, fun j t ht => by
        rw [Tryz.params3] at ht
        have hm : t ∈ [25] := by simpa using Array.mem_of_getElem? ht
        have hall : ([25].all fun u => !Tryz.prog.wantsStandIn u) = true := by kernel_rfl
        exact (show Tryz.prog.wantsStandIn t = false by simpa using List.all_eq_true.1 hall t hm)⟩)
    (by kernel_rfl)
#print axioms RegexPrints_holds
end Go.Proofs.YtplbgfljmbiboaaGreatDoor
