/-
  The parser's end beyond fifty open parentheses.
  The parser's begin and end beyond fifty open parentheses.
  The parser's ways into its panic: must, named, repeat, divide, end.
  An expression that came in as an argument, opened.
  The law's own run.
-/
import Derived.Test.YtagppgncanimaaaGreatDoorZTakeAnd
import Derived.Test.YtagppgncanimaaaGreatDoorZGoesAnd
import Derived.Test.YtagppgncanimaaaGreatDoorWKindAnd
import Derived.WalkKit
import Derived.ProofKit
import Derived.OpenShut
import Derived.ShutString
import Derived.Deep.Slices
import Derived.ChangeArms
import Derived.SliceStrings
import Derived.Test.YtagppgncanimaaaGreatDoorYNamedAnd
namespace Go.Proofs.YtagppgncanimaaaGreatDoor
open Go.RowKit

theorem z_fit : zR.Fit := by
  simp [Rx.Fit, Rx.all_eq, Rx.kids, Rx.name, maxLen]
theorem z_chk : chkN zR = 0 := by
  have h1 : Wo.nameB [97] = true := by kernel_rfl
  have h2 : Wo.nameB [98] = true := by kernel_rfl
  have h3 : Wo.nameB [99] = true := by kernel_rfl
  have h4 : Wo.nameB [99, 111, 114, 101] = true := by kernel_rfl
  simp [chkN, Rx.nodes_eq, Rx.deep_eq, Rx.all_eq, Rx.kids, nodeB, Rx.op, Rx.name, noneB, h1, h2, h3, h4]
theorem z_wds : zR.wds = [[97], [46], [42], [36], [99, 111, 114, 101], [40], [98], [124], [99], [41], [43]] := by
  simp [Rx.wds, tg, kwd, altW, sgn1, Rx.op, Rx.kids]
theorem z_prs : prS zR = zText := by
  unfold prS
  rw [if_pos z_chk, z_wds]
  decide
theorem z_yes : matchB zR [([97], []), ([113], [[99, 111, 114, 101]]), ([99], [])] = true := by
  simp [matchB, runS, Sp.of, Sp.take, noneS, firsts, endsR, fitB, Sp.em, Sp.en]
theorem z_no : matchB zR [([97], []), ([99], [])] = false := by
  simp [matchB, runS, Sp.of, Sp.take, noneS, firsts, endsR, fitB, Sp.em, Sp.en]

theorem z_path1 (w : World) : PathAt ((w.alloc (.cells #[.string (tx [99, 111, 114, 101])] 9)).alloc (.cells #[.string (tx [97]), .slice none 0 0, .string (tx [113]), .slice (some ⟨w.heap.size, 0, none⟩) 1 1, .string (tx [99]), .slice none 0 0] 66)) (.slice (some ⟨w.heap.size + 1, 0, none⟩) 3 3) [([97], []), ([113], [[99, 111, 114, 101]]), ([99], [])] := by
  refine ⟨_, 3, rfl, Or.inr ⟨w.heap.size + 1, 0, rfl, by simp, fun i p hp => ?_⟩⟩
  have hb := new_1 w (.cells #[.string (tx [99, 111, 114, 101])] 9) (.cells #[.string (tx [97]), .slice none 0 0, .string (tx [113]), .slice (some ⟨w.heap.size, 0, none⟩) 1 1, .string (tx [99]), .slice none 0 0] 66)
  match i, hp with
  | 0, hp =>
    simp at hp
    subst hp
    exact ⟨by simp, none, 0, 0, by rw [cell_at hb]; rfl, by rw [cell_at hb]; rfl, Txs.nil _ _ _⟩
  | 1, hp =>
    simp at hp
    subst hp
    refine ⟨by simp [maxLen], some ⟨w.heap.size, 0, none⟩, 1, 1, by rw [cell_at hb]; rfl, by rw [cell_at hb]; rfl, _, 1, rfl, Or.inr ⟨w.heap.size, 0, rfl, by simp; omega, fun j hj => ?_⟩⟩
    have hj0 : j = 0 := by simp at hj; omega
    subst hj0
    rw [cell_at (new_old _ _ (new_0 w _))]
    rfl
  | 2, hp =>
    simp at hp
    subst hp
    exact ⟨by simp, none, 0, 0, by rw [cell_at hb]; rfl, by rw [cell_at hb]; rfl, Txs.nil _ _ _⟩
theorem z_path2 (w : World) : PathAt (w.alloc (.cells #[.string (tx [97]), .slice none 0 0, .string (tx [99]), .slice none 0 0] 66)) (.slice (some ⟨w.heap.size, 0, none⟩) 2 2) [([97], []), ([99], [])] := by
  refine ⟨_, 2, rfl, Or.inr ⟨w.heap.size, 0, rfl, by simp, fun i p hp => ?_⟩⟩
  have hb := new_0 w (.cells #[.string (tx [97]), .slice none 0 0, .string (tx [99]), .slice none 0 0] 66)
  match i, hp with
  | 0, hp =>
    simp at hp
    subst hp
    exact ⟨by simp, none, 0, 0, by rw [cell_at hb]; rfl, by rw [cell_at hb]; rfl, Txs.nil _ _ _⟩
  | 1, hp =>
    simp at hp
    subst hp
    exact ⟨by simp, none, 0, 0, by rw [cell_at hb]; rfl, by rw [cell_at hb]; rfl, Txs.nil _ _ _⟩

set_option maxRecDepth 20000 in
set_option maxHeartbeats 4000000 in
theorem awake9 : Awake9 := by
  intro w
  have HP := hid (fun (W : World) => (by
    have := gParse_ok (w := W) (s := zText) (ls := Wo.read zText) (A := []) (P := zP) (by decide) rfl z_read.1 (by have h := congrArg List.length z_read.2.1; rw [List.length_map] at h; rw [h]; decide) (by rw [z_read.2.2]; decide) (by rw [z_read.2.1]; exact z_goes) (by simp) (by simp [nodesL, Rx.nodes_eq, Rx.kids]) (by rw [z_whole]; exact z_fit) (by rw [z_whole]; exact z_chk)
    rw [z_whole] at this
    exact this : Calls Tryz.prog 15 #[.string (tx zText)] W fun e w' => ∃ u n c, e = .returned (.tuple #[.agg #[.int .i64 zR.op, .string (tx zR.name), .slice u n c], .int .i64 0, .int .i64 0, .int .i64 0]) ∧ Hid (RxS w' (.slice u n c) zR.kids) ∧ Below W.heap.size W w'))
  have HPR := hid (fun (W : World) (v : Value) (hS : RxS W v zR.kids) => (by
    have := gPrint_any hS z_fit
    rw [z_prs, z_chk] at this
    exact this : Calls Tryz.prog 8 #[.agg #[.int .i64 zR.op, .string (tx zR.name), v]] W fun e w' => e = .returned (.tuple #[.string (tx zText), .int .i64 ((0 : Nat) : Int)]) ∧ Below W.heap.size W w'))
  have HM1 := hid (fun (W : World) (v vp : Value) (hS : RxS W v zR.kids) (hp : PathAt W vp [([97], []), ([113], [[99, 111, 114, 101]]), ([99], [])]) => (by
    have := gMatch_ok hS z_fit z_chk hp (by decide) (by simp)
    rw [z_yes] at this
    exact this : Calls Tryz.prog 19 #[.agg #[.int .i64 zR.op, .string (tx zR.name), v], vp] W fun e w' => e = .returned (.tuple #[.bool true, .int .i64 0]) ∧ Below W.heap.size W w'))
  have HM2 := hid (fun (W : World) (v vp : Value) (hS : RxS W v zR.kids) (hp : PathAt W vp [([97], []), ([99], [])]) => (by
    have := gMatch_ok hS z_fit z_chk hp (by decide) (by simp)
    rw [z_no] at this
    exact this : Calls Tryz.prog 19 #[.agg #[.int .i64 zR.op, .string (tx zR.name), v], vp] W fun e w' => e = .returned (.tuple #[.bool false, .int .i64 0]) ∧ Below W.heap.size W w'))
  rw [show zR.op = 4 from rfl, show zR.name = [] from rfl] at HP HPR HM1 HM2
  go_enter Tryz.func14, Tryz.ntmps14
  go_wp2_with fail
  refine (HP.out _).mono ?_
  rintro en w1 ⟨u, n, c, rfl, X1, hb1⟩
  obtain ⟨uo, uc, hun, -⟩ := X1.out.at
  cases hun
  rw [show zR.kids.length = 4 from rfl] at *
  have HX := hid (fun (W : World) (hb : Below w1.heap.size w1 W) => X1.out.on hb)
  clear X1
  have HB1 := hid hb1
  clear hb1
  go_wp2_with fail
  refine (HPR.out _ _ (HX.out _ ((Below.refl _ _).alloc (Nat.le_refl _) _))).mono ?_
  rintro en w2 ⟨rfl, hb2⟩
  have hs2 : w1.heap.size + 1 ≤ w2.heap.size := by have := hb2.size; simpa using this
  have hbx := (hb2.block w1.heap.size (by simp)).trans (new_0 _ _)
  have x0 : w2.cell? ⟨w1.heap.size, 0, none⟩ = some (.int .i64 4) := by rw [cell_at hbx]; rfl
  have x1 : w2.cell? ⟨w1.heap.size, 1, none⟩ = some (.string (tx [])) := by rw [cell_at hbx]; rfl
  have x2 : w2.cell? ⟨w1.heap.size, 2, none⟩ = some (.slice u 4 c) := by rw [cell_at hbx]; rfl
  have B2 := hid (show Below w1.heap.size w1 w2 from ((Below.refl _ _).alloc (Nat.le_refl _) _).trans (hb2.mono (by simp)))
  have BX := hid hbx
  clear hb2 hbx
  have HQ1 := hid (fun (o1 o2 : Obj) => (B2.out.alloc (by omega) o1).alloc (by simp; omega) o2)
  go_wp2_with fail
  refine (HM1.out _ _ _ (HX.out _ (HQ1.out _ _)) (z_path1 w2)).mono ?_
  rintro en w3 ⟨rfl, hb3⟩
  have B3 := hid (show Below w1.heap.size w1 w3 from (HQ1.out (.cells #[.string (tx [99, 111, 114, 101])] 9) (.cells #[.string (tx [97]), .slice none 0 0, .string (tx [113]), .slice (some ⟨w2.heap.size, 0, none⟩) 1 1, .string (tx [99]), .slice none 0 0] 66)).trans (hb3.mono (by simp; omega)))
  have hs3 : w2.heap.size + 2 ≤ w3.heap.size := by have := hb3.size; simpa using this
  have hbx := (hb3.block w1.heap.size (by simp; omega)).trans ((Below.heap_alloc _ _ _ (by simp; omega)).trans ((Below.heap_alloc _ _ _ (by omega)).trans BX.out))
  clear x0 x1 x2
  have x0 : w3.cell? ⟨w1.heap.size, 0, none⟩ = some (.int .i64 4) := by rw [cell_at hbx]; rfl
  have x1 : w3.cell? ⟨w1.heap.size, 1, none⟩ = some (.string (tx [])) := by rw [cell_at hbx]; rfl
  have x2 : w3.cell? ⟨w1.heap.size, 2, none⟩ = some (.slice u 4 c) := by rw [cell_at hbx]; rfl
  clear hb3 hbx
  have HQ2 := hid (fun (o1 : Obj) => B3.out.alloc (by omega) o1)
  go_wp2_with fail
  refine (HM2.out _ _ _ (HX.out _ (HQ2.out _)) (z_path2 w3)).mono ?_
  rintro en w4 ⟨rfl, hb4⟩
  have B4 := hid (show Below w.heap.size w w4 from below_2x HB1.out ((HQ2.out (.cells #[.string (tx [97]), .slice none 0 0, .string (tx [99]), .slice none 0 0] 66)).trans (hb4.mono (by simp; omega))))
  clear hb4
  go_wp2
  try (go_quiet (fail); go_wp2)
  go_ret
  exact ⟨rfl, B4.out⟩
end Go.Proofs.YtagppgncanimaaaGreatDoor
namespace Go.Proofs.YtagppgncanimaaaGreatDoor
open Go.ChangeShapes Go.WideShapes Go.ChangeAt Go.RowKit

theorem structOfX {P : Program} {t : TypeId} {l : List (TypeId × Nat)} (h : (match P.underlying t with | some (.struct fs) => decide (fs.toList.map (fun f => (f.type, f.offset)) = l) | _ => false) = true) : ∃ fs, P.underlying t = some (.struct fs) ∧ fs.toList.map (fun f => (f.type, f.offset)) = l := by
  split at h
  · rename_i fs e
    exact ⟨fs, e, of_decide_eq_true h⟩
  · cases h
theorem fieldOfX {fs : Array Field} {l : List (TypeId × Nat)} (h : fs.toList.map (fun f => (f.type, f.offset)) = l) {i : Nat} {ty : TypeId} {off : Nat} (hi : l[i]? = some (ty, off)) : ∃ f, fs[i]? = some f ∧ f.type = ty ∧ f.offset = off := by
  rw [← h, List.getElem?_map, Option.map_eq_some_iff] at hi
  obtain ⟨f, hf, e⟩ := hi
  simp only [Prod.mk.injEq] at e
  exact ⟨f, by simpa using hf, e.1, e.2⟩
theorem addrAddX (g o i : Nat) : (⟨g, o, none⟩ : Addr).add i = ⟨g, o + i, none⟩ := by
  unfold Addr.add; split <;> simp_all
theorem addrOfX {w : World} {a : Addr} {v : Value} (h : w.cell? (a.add 0) = some v) : (∃ g o, a = ⟨g, o, none⟩) ∧ a.block < w.heap.size := by
  have e : a.add 0 = a := by unfold Addr.add; simp
  rw [e] at h
  obtain ⟨g, o, sp⟩ := a
  have hlt : g < w.heap.size := World.block_lt_of_cell? w _ h
  refine ⟨?_, hlt⟩
  cases sp with
  | none => exact ⟨g, o, rfl⟩
  | some s =>
    exfalso
    unfold World.cell? at h
    simp only [Option.isSome_some, if_true] at h
    split at h <;> cases h
theorem Rx.Fit.mk {r : Rx} (h : r.name.length ≤ maxLen) (hk : ∀ k ∈ r.kids, k.Fit) : r.Fit := (Rx.all_iff _ _).2 ⟨decide_eq_true h, hk⟩

section
variable {H : Type} {enc : TypeId × Value → H} {w : World} {base : Nat} {spare : Nat → Bool} {held : Bool}

set_option maxRecDepth 100000 in
theorem open_regex (fuel : Nat) : ∀ {cs : List Value} {x : DataW H × List MemPlace}, DataW.trod enc Tryz.prog w base spare held fuel 25 cs = some x → ∃ (r : Rx) (v : Value), cs = [.int .i64 r.op, .string (tx r.name), v] ∧ RxS w v r.kids ∧ r.Fit := by
  induction fuel using Nat.strongRecOn with
  | ind fuel ih =>
    intro cs x h
    obtain ⟨fs, hfs, hl⟩ := structOfX (P := Tryz.prog) (t := 25) (l := [(22, 0), (9, 1), (23, 2)]) (by kernel_rfl)
    obtain ⟨xs, n, hn, _, hlen, hxl, hf⟩ := DataW.trod_struct hfs h
    have hc : Tryz.prog.cellsOf 25 = 3 := by kernel_rfl
    rw [hc] at hlen
    have hsz : fs.size = 3 := by have := congrArg List.length hl; simpa using this
    match cs, hlen with
    | [c0, c1, c2], _ =>
      obtain ⟨f0, e0, t0, o0⟩ := fieldOfX hl (i := 0) rfl
      obtain ⟨f1, e1, t1, o1⟩ := fieldOfX hl (i := 1) rfl
      obtain ⟨f2, e2, t2, o2⟩ := fieldOfX hl (i := 2) rfl
      have g0 := hf 0 f0 e0
      have g1 := hf 1 f1 e1
      have g2 := hf 2 f2 e2
      rw [t0, o0, show Tryz.prog.cellsOf 22 = 1 by kernel_rfl, List.getElem?_eq_getElem (show 0 < xs.length by omega)] at g0
      rw [t1, o1, show Tryz.prog.cellsOf 9 = 1 by kernel_rfl, List.getElem?_eq_getElem (show 1 < xs.length by omega)] at g1
      rw [t2, o2, show Tryz.prog.cellsOf 23 = 1 by kernel_rfl, List.getElem?_eq_getElem (show 2 < xs.length by omega)] at g2
      obtain ⟨p, hp, _, _⟩ := DataW.trod_int (k := .i64) (by kernel_rfl) g0
      obtain ⟨m, hm1, _, hms⟩ := DataW.trod_string Tryz.underlying9 g1
      simp at hp hm1
      subst hp hm1
      have g2' : DataW.trod enc Tryz.prog w base spare held n 23 [c2] = some xs[2] := by simpa using g2
      have hmn : m.data.toList.length ≤ maxLen := by rw [list_size]; exact hms
      rcases DataW.trod_slice Tryz.underlying23 g2' with ⟨hcs, _⟩ | ⟨a, len, cap, elems, rest, n2, hn2, hcs, _, _, hlc, _, hel, helem, _, _⟩
      · simp only [List.cons.injEq, and_true] at hcs
        refine ⟨.mk p m.data.toList [], c2, rfl, by rw [hcs]; exact .nil _ _, Rx.Fit.mk hmn fun k hk => absurd hk (by simp [Rx.kids])⟩
      · simp only [List.cons.injEq, and_true] at hcs
        subst hcs
        rw [hc] at helem
        have each : ∀ i, i < len → ∃ q : Rx × Value, w.cell? (a.add (i * 3)) = some (.int .i64 q.1.op) ∧ w.cell? ((a.add (i * 3)).add 1) = some (.string (tx q.1.name)) ∧ w.cell? ((a.add (i * 3)).add 2) = some q.2 ∧ RxS w q.2 q.1.kids ∧ q.1.Fit := by
          intro i hi
          have h1 := helem i hi
          rw [List.getElem?_eq_getElem (show i < elems.length by omega), Option.bind_eq_some_iff] at h1
          obtain ⟨cs', h2, h3⟩ := h1
          obtain ⟨_, _, hcell⟩ := World.cells?_some h2
          obtain ⟨r, v, rfl, h4, h5⟩ := ih n2 (by omega) h3
          have c0 := hcell 0 (by omega)
          have c1 := hcell 1 (by omega)
          have c2 := hcell 2 (by omega)
          have e0 : (a.add (i * 3)).add 0 = a.add (i * 3) := by unfold Addr.add; simp
          rw [e0] at c0
          exact ⟨(r, v), c0, c1, c2, h4, h5⟩
        by_cases h0 : len = 0
        · subst h0
          exact ⟨.mk p m.data.toList [], _, rfl, .nil _ _, Rx.Fit.mk hmn fun k hk => absurd hk (by simp [Rx.kids])⟩
        have : Inhabited (Rx × Value) := ⟨(.mk 0 [] [], .bool false)⟩
        obtain ⟨q, hq⟩ := Go.Deep.choose_lt each
        obtain ⟨⟨g, o, rfl⟩, hb⟩ := addrOfX (v := .int .i64 (q 0).1.op) (by have := (hq 0 (by omega)).1; rw [Nat.zero_mul] at this; exact this)
        have hkl : ((List.range len).map fun i => (q i).1).length = len := by simp
        refine ⟨.mk p m.data.toList ((List.range len).map fun i => (q i).1), _, rfl, ?_, Rx.Fit.mk hmn fun k hk => ?_⟩
        · show RxS w (.slice (some ⟨g, o, none⟩) len cap) ((List.range len).map fun i => (q i).1)
          have hs := RxS.some (w := w) g o cap ((List.range len).map fun i => (q i).1) ((List.range len).map fun i => (q i).2) hb (by simp) (fun i k v hk hv => ?_) (fun i k v hk hv => ?_)
          · rw [hkl] at hs; exact hs
          · rw [List.getElem?_map, Option.map_eq_some_iff] at hk hv
            obtain ⟨i', hi', rfl⟩ := hk
            obtain ⟨i'', hi'', rfl⟩ := hv
            rw [hi'] at hi''
            cases hi''
            obtain ⟨hi, rfl⟩ := List.getElem?_eq_some_iff.1 hi'
            simp only [List.length_range] at hi
            simp only [List.getElem_range]
            obtain ⟨c0, c1, c2, _, _⟩ := hq i hi
            rw [addrAddX] at c0 c1 c2
            rw [addrAddX] at c1 c2
            exact ⟨c0, c1, c2⟩
          · rw [List.getElem?_map, Option.map_eq_some_iff] at hk hv
            obtain ⟨i', hi', rfl⟩ := hk
            obtain ⟨i'', hi'', rfl⟩ := hv
            rw [hi'] at hi''
            cases hi''
            obtain ⟨hi, rfl⟩ := List.getElem?_eq_some_iff.1 hi'
            simp only [List.length_range] at hi
            simp only [List.getElem_range]
            exact (hq i hi).2.2.2.1
        · obtain ⟨i, hi, rfl⟩ := List.mem_map.1 (show k ∈ (List.range len).map fun i => (q i).1 from hk)
          exact (hq i (List.mem_range.1 hi)).2.2.2.2
end
end Go.Proofs.YtagppgncanimaaaGreatDoor
namespace Go.Proofs.YtagppgncanimaaaGreatDoor
open Go.RowKit

/-- The panic of the parser. -/
abbrev panX : List PanicEntry := [{ v := .iface 26 (.int .i64 90), recovered := false }]

set_option maxHeartbeats 2000000 in
theorem must_false {w : World} {pb : Nat} : Calls Tryz.prog 92 #[.pointer (some ⟨pb, 0, none⟩), .bool false] w fun e w' => e = .panicked panX ∧ w = w' := by
  go_enter Tryz.func92, Tryz.ntmps92
  go_wp2
  exact ⟨rfl, rfl, rfl⟩

set_option maxHeartbeats 2000000 in
theorem gnext_end {w : World} {pb a : Nat} {vw : Value} {ts : List (List UInt8)} (hW : WdAt w vw ts) (h0 : w.cell? ⟨pb, 0, none⟩ = some vw) (h1 : w.cell? ⟨pb, 1, none⟩ = some (.int .i64 a)) (ha : a = ts.length) :
    Calls Tryz.prog 118 #[.pointer (some ⟨pb, 0, none⟩)] w fun e w' => e = .returned (.string (tx [])) ∧ Below w.heap.size w w' := by
  obtain ⟨ao, cap, rfl, -⟩ := hW
  have HD := hid (done_any h0 h1)
  rw [decide_eq_true ha] at HD
  go_enter Tryz.func118, Tryz.ntmps118
  go_wp2_with fail
  refine HD.out.mono ?_
  rintro en w1 ⟨rfl, hb1⟩
  have HB := hid hb1
  clear hb1
  go_wp2
  go_ret
  exact ⟨by simp, HB.out⟩

/-- The next word's text, behind the last one nothing. -/
theorem gnext_all {w : World} {pb a : Nat} {vw : Value} {ts : List (List UInt8)} (hW : WdAt w vw ts) (h0 : w.cell? ⟨pb, 0, none⟩ = some vw) (h1 : w.cell? ⟨pb, 1, none⟩ = some (.int .i64 a)) (ha : a ≤ ts.length) (hn : ts.length ≤ 10000000) :
    Calls Tryz.prog 118 #[.pointer (some ⟨pb, 0, none⟩)] w fun e w' => e = .returned (.string (tx (ts.getD a []))) ∧ Below w.heap.size w w' := by
  by_cases h : a < ts.length
  · have := gnext_any hW h0 h1 (List.getElem?_eq_getElem h) hn
    rw [show ts.getD a [] = ts[a] by simp [List.getD_eq_getElem?_getD, h]]
    exact this
  · have h' : a = ts.length := by omega
    rw [show ts.getD a [] = [] by rw [List.getD_eq_getElem?_getD, List.getElem?_eq_none (by omega)]; rfl]
    exact gnext_end hW h0 h1 h'

set_option maxRecDepth 20000 in
set_option maxHeartbeats 2000000 in
theorem named_bad {w : World} {pb a : Nat} {vw : Value} {ts : List (List UInt8)} {t : List UInt8} {op : Int} (hW : WdAt w vw ts) (h0 : w.cell? ⟨pb, 0, none⟩ = some vw) (h1 : w.cell? ⟨pb, 1, none⟩ = some (.int .i64 a)) (ha : a ≤ ts.length) (ht : ts.getD a [] = t) (htl : t.length ≤ 1048576) (hn : ts.length ≤ 10000000) (hN : Wo.nameB t = false) :
    Calls Tryz.prog 126 #[.pointer (some ⟨pb, 0, none⟩), .int .i64 op] w fun e w' => e = .panicked panX ∧ Below w.heap.size w w' := by
  have HNX := hid (fun (W : World) (hb : Below w.heap.size w W) => (by
    have := gnext_all (pb := pb) (hW.on hb) ((hb.cell (by exact World.block_lt_of_cell? w _ h0)).trans h0) ((hb.cell (by exact World.block_lt_of_cell? w _ h1)).trans h1) ha hn
    rw [ht] at this
    exact this : Calls Tryz.prog 118 #[.pointer (some ⟨pb, 0, none⟩)] W fun e w' => e = .returned (.string (tx t)) ∧ Below W.heap.size W w'))
  have HNM := hid (fun (W : World) => (show Calls Tryz.prog 82 #[.string (tx t)] W fun e W' => e = .returned (.bool false) ∧ W = W' from (Name_any (tx t) W (by unfold maxLen; rw [← list_size]; show t.length ≤ _; omega)).mono fun e W' h => ⟨by rw [h.1]; show _ = Ending.returned (.bool false); rw [← hN], h.2.symm⟩))
  clear hW h0 h1 ht hn hN htl ha
  go_enter Tryz.func126, Tryz.ntmps126
  go_wp2_with fail
  refine (HNX.out _ ((Below.refl _ _).alloc (Nat.le_refl _) _)).mono ?_
  rintro en w1 ⟨rfl, hb1⟩
  have B1 := hid (show Below w.heap.size w w1 from ((Below.refl _ _).alloc (Nat.le_refl _) _).trans (hb1.mono (by simp)))
  clear hb1
  go_wp2_with fail
  refine (HNM.out _).mono ?_
  rintro en w2 ⟨rfl, rfl⟩
  go_wp2_with fail
  refine (must_false).mono ?_
  rintro en w2 ⟨rfl, rfl⟩
  exact ⟨rfl, rfl, B1.out⟩

set_option maxRecDepth 20000 in
set_option maxHeartbeats 2000000 in
theorem repeat_bad {B : Nat} {w : World} {pb : Nat} {vw : Value} {a b : Nat} {Gi : List (List Rx × List Rx)} {A : List Rx} {op : Int} (h : PS B w pb vw a b (Gi ++ [(A, [])])) (hn : Gi.length ≤ 100000) :
    Calls Tryz.prog 122 #[.pointer (some ⟨pb, 0, none⟩), .int .i64 op] w fun e w' => e = .panicked panX ∧ Below w.heap.size w w' := by
  obtain ⟨K, vg, gs, h, habs⟩ := h
  obtain ⟨gi, g, rfl, hgi, hga, hgp⟩ := abs_last habs
  obtain ⟨gb, cap, rfl, hgB, hgl, hgpb, -, -, k1, -⟩ := h.last
  have hgm : g ∈ gi ++ [g] := by simp
  obtain ⟨pa, pc, hvp⟩ := own_form (h.rowP g hgm).own
  rw [show g.parts.length = 0 by rw [← List.length_map (f := Prod.fst), hgp]; rfl] at hvp
  obtain ⟨G, hG⟩ : ∃ G, G = gi.length := ⟨_, rfl⟩
  rw [hvp, ← hG] at k1
  have hGl : gi.length = Gi.length := by rw [← hgi]; simp
  have HL := hid (last_any (n := G) (N := gi.length + 1) h.cells.1.2.2.1 (by omega) (by omega))
  have HK1 := hid (fun (W : World) (hb : Below w.heap.size w W) => (hb.cell (p := ⟨gb, G * 2 + 1, none⟩) (by exact hgl)).trans k1)
  clear h habs hgp k1 hvp hG hgi hga
  go_enter Tryz.func122, Tryz.ntmps122
  go_wp2_with fail
  refine HL.out.mono ?_
  rintro en w1 ⟨rfl, hb1⟩
  have z1 := HK1.out _ hb1
  have B1 := hid hb1
  clear hb1
  go_wp2_with fail
  refine must_false.mono ?_
  rintro en w2 ⟨rfl, rfl⟩
  exact ⟨rfl, rfl, B1.out⟩

set_option maxRecDepth 20000 in
set_option maxHeartbeats 2000000 in
theorem divide_bad {B : Nat} {w : World} {pb : Nat} {vw : Value} {a b : Nat} {Gi : List (List Rx × List Rx)} {A : List Rx} (h : PS B w pb vw a b (Gi ++ [(A, [])])) (hn : Gi.length ≤ 100000) :
    Calls Tryz.prog 121 #[.pointer (some ⟨pb, 0, none⟩)] w fun e w' => e = .panicked panX ∧ Below w.heap.size w w' := by
  obtain ⟨K, vg, gs, h, habs⟩ := h
  obtain ⟨gi, g, rfl, hgi, hga, hgp⟩ := abs_last habs
  obtain ⟨gb, cap, rfl, hgB, hgl, hgpb, -, -, k1, -⟩ := h.last
  have hgm : g ∈ gi ++ [g] := by simp
  obtain ⟨pa, pc, hvp⟩ := own_form (h.rowP g hgm).own
  rw [show g.parts.length = 0 by rw [← List.length_map (f := Prod.fst), hgp]; rfl] at hvp
  obtain ⟨G, hG⟩ : ∃ G, G = gi.length := ⟨_, rfl⟩
  rw [hvp, ← hG] at k1
  have hGl : gi.length = Gi.length := by rw [← hgi]; simp
  have HL := hid (last_any (n := G) (N := gi.length + 1) h.cells.1.2.2.1 (by omega) (by omega))
  have HK1 := hid (fun (W : World) (hb : Below w.heap.size w W) => (hb.cell (p := ⟨gb, G * 2 + 1, none⟩) (by exact hgl)).trans k1)
  clear h habs hgp k1 hvp hG hgi hga
  go_enter Tryz.func121, Tryz.ntmps121
  go_wp2_with fail
  refine HL.out.mono ?_
  rintro en w1 ⟨rfl, hb1⟩
  have z1 := HK1.out _ hb1
  have B1 := hid hb1
  clear hb1
  go_wp2_with fail
  refine must_false.mono ?_
  rintro en w2 ⟨rfl, rfl⟩
  exact ⟨rfl, rfl, B1.out⟩

set_option maxRecDepth 20000 in
set_option maxHeartbeats 2000000 in
theorem end_bad {B : Nat} {w : World} {pb : Nat} {vw : Value} {a b : Nat} {Gi : List (List Rx × List Rx)} {A P : List Rx} (h : PS B w pb vw a b (Gi ++ [(A, P)])) (hn : Gi.length ≤ 100000) (hbad : Gi = [] ∨ A ≠ [] ∧ P = []) :
    Calls Tryz.prog 120 #[.pointer (some ⟨pb, 0, none⟩)] w fun e w' => e = .panicked panX ∧ Below w.heap.size w w' := by
  obtain ⟨K, vg, gs, h, habs⟩ := h
  obtain ⟨gi, g, rfl, hgi, hga, hgp⟩ := abs_last habs
  obtain ⟨gb, cap, rfl, hgB, hgl, hgpb, -, k0, k1, -⟩ := h.last
  have hgm : g ∈ gi ++ [g] := by simp
  obtain ⟨aa, ac, hva⟩ := own_form (h.rowA g hgm).own
  obtain ⟨pa, pc, hvp⟩ := own_form (h.rowP g hgm).own
  obtain ⟨na, hna⟩ : ∃ na, na = g.ahead.length := ⟨_, rfl⟩
  obtain ⟨np, hnp⟩ : ∃ np, np = g.parts.length := ⟨_, rfl⟩
  rw [← hna] at hva
  rw [← hnp] at hvp
  obtain ⟨N, hN⟩ : ∃ N, N = gi.length := ⟨_, rfl⟩
  rw [hva, ← hN] at k0
  rw [hvp, ← hN] at k1
  have hNl : N = Gi.length := by rw [hN, ← hgi]; simp
  have hnA : na = A.length := by rw [hna, ← hga]; simp
  have hnP : np = P.length := by rw [hnp, ← hgp]; simp
  have HL := hid (last_any (n := N) (N := gi.length + 1) h.cells.1.2.2.1 (by omega) (by omega))
  have HC := hid (fun (W : World) (hb : Below w.heap.size w W) => (by
    have p2 := (h.below hb).cells.1.2.2.1
    rw [← hN] at p2
    exact ⟨⟨(hb.cell (by exact hgl)).trans k0, (hb.cell (by exact hgl)).trans k1⟩, p2⟩ : (W.cell? ⟨gb, N * 2, none⟩ = some (.slice aa na ac) ∧ W.cell? ⟨gb, N * 2 + 1, none⟩ = some (.slice pa np pc)) ∧ W.cell? ⟨pb, 2, none⟩ = some (.slice (some ⟨gb, 0, none⟩) (N + 1) cap)))
  have HO := hid (fun (W : World) (h2 : W.cell? ⟨pb, 2, none⟩ = some (.slice (some ⟨gb, 0, none⟩) (N + 1) cap)) => (by
    have := open_any h2 (by omega)
    rw [show (((N + 1 : Nat) : Int) - 1) = (N : Int) by omega] at this
    exact this : Calls Tryz.prog 93 #[.pointer (some ⟨pb, 0, none⟩)] W fun e w' => e = .returned (.int .i64 N) ∧ W = w'))
  have hcs : N = 0 ∨ 0 < N ∧ 0 < na ∧ np = 0 := by
    rcases hbad with h | ⟨h1, h2⟩
    · exact Or.inl (by rw [hNl, h]; rfl)
    · have : 0 < na := by rw [hnA]; exact List.length_pos_iff.2 h1
      have : np = 0 := by rw [hnP, h2]; rfl
      omega
  clear h habs hga hgp hna hnp hnA hnP hN hgi hva hvp k0 k1 hbad hNl
  rcases hcs with rfl | ⟨h0, h1, rfl⟩
  · have hb3 : ∃ x y z : Bool, ((na : Int) == 0) = x ∧ ((np : Int) == 0) = y ∧ decide (0 < np) = z := ⟨_, _, _, rfl, rfl, rfl⟩
    obtain ⟨x, y, z, b1, b2, b3⟩ := hb3
    cases x <;> cases y <;> cases z
    all_goals (
      go_enter Tryz.func120, Tryz.ntmps120
      go_wp2_with fail
      refine HL.out.mono ?_
      rintro en w1 ⟨rfl, hb1⟩
      obtain ⟨⟨z0, z1⟩, z2⟩ := HC.out _ hb1
      have B1 := hid hb1
      clear hb1 HL
      go_wp2_with fail
      refine (HO.out _ z2).mono ?_
      rintro en w2 ⟨rfl, rfl⟩
      go_wp2_with fail
      refine must_false.mono ?_
      rintro en w2 ⟨rfl, rfl⟩
      exact ⟨rfl, rfl, B1.out⟩)
  · have hN0 : (0 : Int) < (N : Int) := by omega
    have b1 : ((na : Int) == 0) = false := by rw [beq_eq_false_iff_ne]; omega
    go_enter Tryz.func120, Tryz.ntmps120
    go_wp2_with fail
    refine HL.out.mono ?_
    rintro en w1 ⟨rfl, hb1⟩
    obtain ⟨⟨z0, z1⟩, z2⟩ := HC.out _ hb1
    have B1 := hid hb1
    clear hb1 HL
    go_wp2_with fail
    refine (HO.out _ z2).mono ?_
    rintro en w2 ⟨rfl, rfl⟩
    go_wp2_with fail
    refine must_false.mono ?_
    rintro en w2 ⟨rfl, rfl⟩
    exact ⟨rfl, rfl, B1.out⟩
end Go.Proofs.YtagppgncanimaaaGreatDoor
namespace Go.Proofs.YtagppgncanimaaaGreatDoor
open Go.RowKit

theorem grown_far {a b : World} {r : Nat} (h : a.grownBy b (some r)) {k : Nat} (hk : a.heap.size ≤ k) (o : Nat) (v : Value) : a.grownBy (b.setCell ⟨k, o, none⟩ v) (some r) :=
  ⟨h.os, h.tape, h.output, by simpa using h.size, fun j hj hne => (Below.heap_setCell _ _ _ _ (by show j ≠ k; omega)).trans (h.block j hj hne)⟩
theorem grown_pb {a b : World} {r : Nat} (h : a.grownBy b (some r)) (o : Nat) (v : Value) : a.grownBy (b.setCell ⟨r, o, none⟩ v) (some r) :=
  ⟨h.os, h.tape, h.output, by simpa using h.size, fun j hj hne => (Below.heap_setCell _ _ _ _ (by intro e; exact hne (by rw [e]))).trans (h.block j hj hne)⟩
theorem grown_new {a b : World} {r : Nat} (h : a.grownBy b (some r)) (o : Obj) : a.grownBy (b.alloc o) (some r) :=
  ⟨h.os, h.tape, h.output, by have := h.size; simp only [World.size_alloc]; omega, fun j hj hne => (Below.heap_alloc _ _ _ (Nat.lt_of_lt_of_le hj h.size)).trans (h.block j hj hne)⟩
theorem grown_dr {a b : World} {r : Nat} (h : a.grownBy b (some r)) : a.grownBy b.drew (some r) := ⟨h.os, h.tape, h.output, h.size, h.block⟩
theorem grown_id (a : World) (r : Option Nat) : a.grownBy a r := ⟨rfl, rfl, rfl, Nat.le_refl _, fun _ _ _ => rfl⟩

set_option maxRecDepth 20000 in
set_option maxHeartbeats 2000000 in
theorem begin_on {B : Nat} {w : World} {pb : Nat} {vw : Value} {a b : Nat} {G : List (List Rx × List Rx)} (h : PS B w pb vw a b G) (_hn : G.length ≤ 100000) (h50 : G.length = 51) (hb0 : b ≠ 0) :
    Calls Tryz.prog 119 #[.pointer (some ⟨pb, 0, none⟩)] w fun en w' => StPost B w pb vw a b (G ++ [([], [])]) en w' := by
  obtain ⟨i0, hi, hz0, hz1, hz2⟩ := info_parts Tryz.infoGrpX
  have HI := hid hi
  have HZ0 := hid hz0
  have HZ1 := hid hz1
  have HZ2 := hid hz2
  clear hi hz0 hz1 hz2
  obtain ⟨K, vg, gs, h, habs⟩ := h
  have hgl : gs.length = G.length := by rw [← habs]; simp
  obtain ⟨ao, cap, rfl⟩ := own_form h.own
  obtain ⟨⟨p0, p1, p2, p3⟩, q1, q2, q3⟩ := h.cells
  obtain ⟨n, hnn⟩ : ∃ n, n = gs.length := ⟨_, rfl⟩
  rw [← hnn] at p2
  have HO := hid (open_any p2 (by omega))
  have H := hid h
  have HN := hid hnn
  have HAB := hid habs
  have hI : ((n : Int) - 1 == 50) = true := by rw [beq_iff_eq]; omega
  have hI2 : ((b : Int) == 0) = false := by rw [beq_eq_false_iff_ne]; omega
  have hnb : n ≤ 100000 := by omega
  have hpbl := h.pbl
  clear h habs hnn
  go_enter Tryz.func119, Tryz.ntmps119
  go_wp2_with fail
  refine HO.out.mono ?_
  rintro en w1 ⟨rfl, rfl⟩
  have HOW := hid (fun (ob : Obj) => (by
    have h2 := H.out.own.alloc ob
    rw [← HN.out] at h2; exact h2 : (w.alloc ob).ownsRow B 147 2 (.slice ao n cap) n (flatG gs)))
  have HBw := hid (show B ≤ w.heap.size by have := H.out.hB; omega)
  go_wp2_with (first | (at_builtin; refine wpList_append_own_at _ rfl _ _ 141 rfl B 147 i0 (.agg #[.slice none 0 0, .slice none 0 0]) 2 48 Tryz.underlying141 HI.out HZ0.out HZ1.out HZ2.out rfl (by decide) (.slice ao n cap) n (flatG gs) rfl (HOW.out _) ⟨w.heap.size, 0, none⟩ 1 1 [.slice none 0 0, .slice none 0 0] rfl rfl (new_cells _ #[.slice none 0 0, .slice none 0 0] _ _ rfl) ?c2 ?c3 ?c4 ?c5 ?_))
  case c2 => simp [Value.oneCell']
  case c3 => unfold maxLen; omega
  case c4 => omega
  case c5 => have := HBw.out; simp only [World.size_alloc]; omega
  intro v3 w3 hown3 hgrow3 _ hat3
  obtain ⟨g3, cap3, hv3, -, -, -⟩ := ownX_form hown3 (by omega)
  subst hv3
  have hpb : w3.heap[pb]? = some (.cells #[vw, .int .i64 a, .slice ao n cap, .int .i64 b] 143 (0, 0)) := by
    rw [hgrow3.block pb (by simp only [World.size_alloc]; omega) (fun e => by
      have e2 : (Value.slice ao gs.length cap).ownBlock = some pb := by rw [← HN.out]; exact e.symm
      obtain ⟨cs, hc⟩ := own_block H.out.own e2
      exact ne_typeX hc H.out.blk (by decide) rfl), Below.heap_alloc _ _ _ hpbl, H.out.blk, HN.out]
  have x2 : w3.cell? ⟨pb, 2, none⟩ = some (.slice ao n cap) := by rw [cell_at hpb]; rfl
  have y2 : w3.frozen? ⟨pb, 2, none⟩ = false := free_of hpb
  have HFIN := hid (show StPost B w pb vw a b (G ++ [([], [])]) (.returned (.tuple #[])) (w3.setCell ⟨pb, 2, none⟩ (.slice (some ⟨g3, 0, none⟩) (n + 1) cap3)) from by
    have hs3 : w.heap.size + 1 ≤ w3.heap.size := by have := hgrow3.size; simpa using this
    have hsl : (Value.slice ao gs.length cap).ownBlock = (Value.slice ao n cap).ownBlock := by rw [HN.out]
    have hne3 : g3 ≠ pb := by
      rcases hat3 with e | e
      · intro e2
        rw [e2] at e
        obtain ⟨cs, hc⟩ := own_block H.out.own (hsl.trans e.symm)
        exact ne_typeX hc H.out.blk (by decide) rfl
      · simp [Value.ownBlock] at e; omega
    have hBl : ∀ k, (Value.slice ao n cap).ownBlock = some k → B ≤ k := fun k hk => (H.out.own.lt k (hsl.trans hk)).1
    refine ⟨rfl, ⟨K, .slice (some ⟨g3, 0, none⟩) (n + 1) cap3, gs ++ [Grp.new], H.out.chg (fun k hl hk hv => ?_) (by simp; omega) ?_ ?_ (fun g hg => ?_) ?_, ?_⟩, ?_⟩
    · rw [Below.heap_setCell _ _ _ _ (by exact hk), hgrow3.block k (by simp only [World.size_alloc]; omega) (fun e => hv (hsl.trans e.symm)), Below.heap_alloc _ _ _ hl]
    · rw [heap_setCell_same w3 pb 2 _ _ _ hpb]; rfl
    · rw [flatG_app, List.length_append, ← HN.out]
      exact own_farX hown3 (by simp [Value.ownBlock]; exact hne3)
    · rcases List.mem_append.1 hg with hg | hg
      · exact Or.inl hg
      · exact Or.inr (List.mem_singleton.1 hg)
    · have := H.out.nd
      rw [List.flatMap_append]
      simpa [Grp.blocks, Grp.new, Value.ownBlock] using this
    · simp [HAB.out, Grp.abs, Grp.new]
    · exact (((Below.refl B w).alloc HBw.out _).grown hgrow3 (by have := HBw.out; simp only [World.size_alloc]; omega) hBl).setCell (by exact H.out.hB) _)
  clear hown3 hgrow3 hat3 hpb
  go_wp2
  exact bodyPost_end (v := .tuple #[]) (by simp [results, Tryz.results119, go_sem]) rfl HFIN.out
set_option maxRecDepth 20000 in
set_option maxHeartbeats 2000000 in
theorem begin_first {B : Nat} {w : World} {pb : Nat} {vw : Value} {a : Nat} {G : List (List Rx × List Rx)} (h : PS B w pb vw a 0 G) (_hn : G.length ≤ 100000) (h50 : G.length = 51) :
    Calls Tryz.prog 119 #[.pointer (some ⟨pb, 0, none⟩)] w fun en w' => StPost B w pb vw a a (G ++ [([], [])]) en w' := by
  obtain ⟨i0, hi, hz0, hz1, hz2⟩ := info_parts Tryz.infoGrpX
  have HI := hid hi
  have HZ0 := hid hz0
  have HZ1 := hid hz1
  have HZ2 := hid hz2
  clear hi hz0 hz1 hz2
  obtain ⟨K, vg, gs, h, habs⟩ := h
  have hgl : gs.length = G.length := by rw [← habs]; simp
  obtain ⟨ao, cap, rfl⟩ := own_form h.own
  obtain ⟨⟨p0, p1, p2, p3⟩, q1, q2, q3⟩ := h.cells
  obtain ⟨n, hnn⟩ : ∃ n, n = gs.length := ⟨_, rfl⟩
  rw [← hnn] at p2
  have HO := hid (open_any p2 (by omega))
  obtain ⟨W, hW⟩ : ∃ W, W = w.setCell ⟨pb, 3, none⟩ (.int .i64 a) := ⟨_, rfl⟩
  have hWs : W.heap.size = w.heap.size := by rw [hW]; simp
  have h' : PsAt B W pb K vw a a (.slice ao gs.length cap) gs := by
    rw [hW]
    refine h.chg (fun k _ hk _ => Below.heap_setCell _ _ _ _ (by exact hk)) (by simp) ?_ ?_ (fun g hg => Or.inl hg) h.nd
    · rw [heap_setCell_same w pb 3 _ _ _ h.blk]; rfl
    · refine own_farX h.own fun e => ?_
      obtain ⟨cs, hc⟩ := own_block h.own e
      exact ne_typeX hc h.blk (by decide) rfl
  have HBW := hid (show Below B w W from by rw [hW]; exact (Below.refl _ _).setCell (by exact h.hB) _)
  have H := hid h'
  have HN := hid hnn
  have HAB := hid habs
  have hI : ((n : Int) - 1 == 50) = true := by rw [beq_iff_eq]; omega
  have hnb : n ≤ 100000 := by omega
  have hpbl := h'.pbl
  have W2 : W.cell? ⟨pb, 2, none⟩ = some (.slice ao n cap) := by rw [hnn]; exact h'.cells.1.2.2.1
  clear h h' habs hnn
  go_enter Tryz.func119, Tryz.ntmps119
  go_wp2_with fail
  refine HO.out.mono ?_
  rintro en w1 ⟨rfl, rfl⟩
  have HOW := hid (fun (ob : Obj) => (by
    have h2 := H.out.own.alloc ob
    rw [← HN.out] at h2; exact h2 : (W.alloc ob).ownsRow B 147 2 (.slice ao n cap) n (flatG gs)))
  have HBw := hid (show B ≤ W.heap.size by have := H.out.hB; omega)
  go_wp2_with (first | (at_builtin; rw [← hW]; refine wpList_append_own_at _ rfl _ _ 141 rfl B 147 i0 (.agg #[.slice none 0 0, .slice none 0 0]) 2 48 Tryz.underlying141 HI.out HZ0.out HZ1.out HZ2.out rfl (by decide) (.slice ao n cap) n (flatG gs) rfl (HOW.out _) ⟨w.heap.size, 0, none⟩ 1 1 [.slice none 0 0, .slice none 0 0] rfl rfl (by rw [← hWs]; exact new_cells _ #[.slice none 0 0, .slice none 0 0] _ _ rfl) ?c2 ?c3 ?c4 ?c5 ?_))
  case c2 => simp [Value.oneCell']
  case c3 => unfold maxLen; omega
  case c4 => omega
  case c5 => have := HBw.out; simp only [World.size_alloc]; omega
  intro v3 w3 hown3 hgrow3 _ hat3
  rw [← hW] at hgrow3
  obtain ⟨g3, cap3, hv3, -, -, -⟩ := ownX_form hown3 (by omega)
  subst hv3
  have hpb : w3.heap[pb]? = some (.cells #[vw, .int .i64 a, .slice ao n cap, .int .i64 a] 143 (0, 0)) := by
    rw [hgrow3.block pb (by simp only [World.size_alloc]; omega) (fun e => by
      have e2 : (Value.slice ao gs.length cap).ownBlock = some pb := by rw [← HN.out]; exact e.symm
      obtain ⟨cs, hc⟩ := own_block H.out.own e2
      exact ne_typeX hc H.out.blk (by decide) rfl), Below.heap_alloc _ _ _ hpbl, H.out.blk, HN.out]
  have x2 : w3.cell? ⟨pb, 2, none⟩ = some (.slice ao n cap) := by rw [cell_at hpb]; rfl
  have y2 : w3.frozen? ⟨pb, 2, none⟩ = false := free_of hpb
  have HFIN := hid (show StPost B w pb vw a a (G ++ [([], [])]) (.returned (.tuple #[])) (w3.setCell ⟨pb, 2, none⟩ (.slice (some ⟨g3, 0, none⟩) (n + 1) cap3)) from by
    have hs3 : W.heap.size + 1 ≤ w3.heap.size := by have := hgrow3.size; simpa using this
    have hsl : (Value.slice ao gs.length cap).ownBlock = (Value.slice ao n cap).ownBlock := by rw [HN.out]
    have hne3 : g3 ≠ pb := by
      rcases hat3 with e | e
      · intro e2
        rw [e2] at e
        obtain ⟨cs, hc⟩ := own_block H.out.own (hsl.trans e.symm)
        exact ne_typeX hc H.out.blk (by decide) rfl
      · simp [Value.ownBlock] at e; omega
    have hBl : ∀ k, (Value.slice ao n cap).ownBlock = some k → B ≤ k := fun k hk => (H.out.own.lt k (hsl.trans hk)).1
    refine ⟨rfl, ⟨K, .slice (some ⟨g3, 0, none⟩) (n + 1) cap3, gs ++ [Grp.new], H.out.chg (fun k hl hk hv => ?_) (by simp; omega) ?_ ?_ (fun g hg => ?_) ?_, ?_⟩, ?_⟩
    · rw [Below.heap_setCell _ _ _ _ (by exact hk), hgrow3.block k (by simp only [World.size_alloc]; omega) (fun e => hv (hsl.trans e.symm)), Below.heap_alloc _ _ _ hl]
    · rw [heap_setCell_same w3 pb 2 _ _ _ hpb]; rfl
    · rw [flatG_app, List.length_append, ← HN.out]
      exact own_farX hown3 (by simp [Value.ownBlock]; exact hne3)
    · rcases List.mem_append.1 hg with hg | hg
      · exact Or.inl hg
      · exact Or.inr (List.mem_singleton.1 hg)
    · have := H.out.nd
      rw [List.flatMap_append]
      simpa [Grp.blocks, Grp.new, Value.ownBlock] using this
    · simp [HAB.out, Grp.abs, Grp.new]
    · exact (((HBW.out).alloc HBw.out _).grown hgrow3 (by have := HBw.out; simp only [World.size_alloc]; omega) hBl).setCell (by exact H.out.hB) _)
  clear hown3 hgrow3 hat3 hpb
  go_wp2
  exact bodyPost_end (v := .tuple #[]) (by simp [results, Tryz.results119, go_sem]) rfl HFIN.out
end Go.Proofs.YtagppgncanimaaaGreatDoor
namespace Go.Proofs.YtagppgncanimaaaGreatDoor
open Go.RowKit

theorem pb_far {w4 : World} {pb : Nat} {v0 v1 v2 v3 : Value} {t : TypeId} (h4 : w4.heap[pb]? = some (.cells #[v0, v1, v2, v3] t (0, 0))) (v : Value) (ob : Obj) : ((w4.setCell ⟨pb, 2, none⟩ v).alloc ob).drew.heap[pb]? = some (.cells #[v0, v1, v, v3] t (0, 0)) := by
  have hl := (Array.getElem?_eq_some_iff.1 h4).1
  show ((w4.setCell ⟨pb, 2, none⟩ v).alloc ob).heap[pb]? = _
  rw [Below.heap_alloc _ _ _ (by simpa using hl), heap_setCell_same w4 pb 2 _ _ v h4]; rfl

set_option maxRecDepth 20000 in
set_option maxHeartbeats 2000000 in
theorem end_deep {B : Nat} {w : World} {pb : Nat} {vw : Value} {a b : Nat} {Gi : List (List Rx × List Rx)} {A0 P0 A P : List Rx} (h : PS B w pb vw a b (Gi ++ [(A0, P0)] ++ [(A, P)])) (hn : 50 ≤ Gi.length) (hn2 : Gi.length ≤ 100000) (hp0 : P0.length ≤ 1000000) (hP : P ≠ [] ∨ A = [] ∧ P = []) (hnn : nodesL A + nodesL P ≤ 900000) :
    Calls Tryz.prog 120 #[.pointer (some ⟨pb, 0, none⟩)] w fun en w' => StPost B w pb vw a b (Gi ++ [(A0, P0 ++ [.mk 4 [] []])]) en w' := by
  obtain ⟨K, vg, gs, h, habs⟩ := h
  obtain ⟨gs1, g, rfl, hgs1, hga, hgp⟩ := abs_last habs
  obtain ⟨gi, g0, rfl, hgi, hga0, hgp0⟩ := abs_last hgs1
  obtain ⟨gb, cap, rfl, hgB, hgl, hgpb, ⟨csg, hgb⟩, k0, k1, -, -, hcap⟩ := h.last
  have hgm : g ∈ gi ++ [g0] ++ [g] := by simp
  have hrA := h.rowA g hgm
  have hrP := h.rowP g hgm
  obtain ⟨aa, ac, hva⟩ := own_form hrA.own
  obtain ⟨pa, pc, hvp⟩ := own_form hrP.own
  obtain ⟨na, hna⟩ : ∃ na, na = g.ahead.length := ⟨_, rfl⟩
  obtain ⟨np, hnp⟩ : ∃ np, np = g.parts.length := ⟨_, rfl⟩
  rw [← hna] at hva
  rw [← hnp] at hvp
  obtain ⟨N, hN⟩ : ∃ N, N = (gi ++ [g0]).length := ⟨_, rfl⟩
  have hNl : N = Gi.length + 1 := by rw [hN, ← hgi]; simp
  rw [hva, ← hN] at k0
  rw [hvp, ← hN] at k1
  have hnA : na = A.length := by rw [hna, ← hga]; simp
  have hnP : np = P.length := by rw [hnp, ← hgp]; simp
  have HL := hid (last_any (n := N) (N := (gi ++ [g0]).length + 1) h.cells.1.2.2.1 (by omega) (by omega))
  have H := hid h
  have HC := hid (fun (W : World) (hb : Below w.heap.size w W) => (by
    obtain ⟨⟨p0, p1, p2, p3⟩, q1, q2, q3⟩ := (h.below hb).cells
    rw [← hN] at p2
    exact ⟨⟨(hb.cell (by exact hgl)).trans k0, (hb.cell (by exact hgl)).trans k1⟩, p2, q2⟩ : (W.cell? ⟨gb, N * 2, none⟩ = some (.slice aa na ac) ∧ W.cell? ⟨gb, N * 2 + 1, none⟩ = some (.slice pa np pc)) ∧ W.cell? ⟨pb, 2, none⟩ = some (.slice (some ⟨gb, 0, none⟩) (N + 1) cap) ∧ W.frozen? ⟨pb, 2, none⟩ = false))
  have HW := hid (fun (W : World) (hb : Below w.heap.size w W) => (by
    have h1 := h.below hb
    have hx := whole_any (K := K) (w := W) (B := B) (gb := gb) (o := N * 2) (va := g.va) (vp := g.vp) (qs := g.ahead) (ps := g.parts) ((hb.block gb hgl).trans hgb) (by rw [hva]; exact (hb.cell (by exact hgl)).trans k0) (by rw [hvp]; exact (hb.cell (by exact hgl)).trans k1) (h1.rowA g hgm) (h1.rowP g hgm).lie h1.lt (fun k hk => h1.free g hgm k (blocks_mem.2 (Or.inl hk))) (by have := h1.pbl; have := h1.hB; omega) (by rw [hga, hgp]; exact hnn)
    rw [hga, hgp] at hx
    exact hx : Calls Tryz.prog 95 #[.pointer (some ⟨gb, N * 2, none⟩)] W fun e w' => TellX K W (wholeR A P) e w' ∧ W.grownBy w' g.va.ownBlock))
  have HO := hid (fun (W : World) (h2 : W.cell? ⟨pb, 2, none⟩ = some (.slice (some ⟨gb, 0, none⟩) (N + 1) cap)) => (by
    have := open_any h2 (by omega)
    rw [show (((N + 1 : Nat) : Int) - 1) = (N : Int) by omega] at this
    exact this : Calls Tryz.prog 93 #[.pointer (some ⟨pb, 0, none⟩)] W fun e w' => e = .returned (.int .i64 N) ∧ W = w'))
  have hN0 : (0 : Int) < (N : Int) := by omega
  have hN50 : (50 : Int) < (N : Int) := by omega
  have hNc : (N : Int) ≤ (cap : Int) := by omega
  have hNz : (0 : Int) ≤ (N : Int) := by omega
  obtain ⟨r, hr⟩ : ∃ r, r = wholeR A P := ⟨_, rfl⟩
  have HRR := hid hr
  rw [← hr] at HW
  have HX := hid (show (0 < np) ∨ (na = 0 ∧ np = 0) by
    rcases hP with h | ⟨h1, h2⟩
    · exact Or.inl (by rw [hnP]; exact List.length_pos_iff.2 h)
    · exact Or.inr (by rw [hnA, hnP, h1, h2]; exact ⟨rfl, rfl⟩))
  have HFIN := hid (fun (w1 w4 : World) (u : Option Addr) (n c : Nat) (K' : Nat → Prop) (hb1 : Below w.heap.size w w1) (hg : w1.grownBy w4 g.va.ownBlock) (hX : RxK K' w4 (.slice u n c) r.kids) (hY : (∀ g, K g → K' g) ∧ ∀ g, K' g → K g ∨ w1.heap.size ≤ g ∧ ∃ cs, w4.heap[g]? = some (.cells cs 25 (0, 0))) => (by
    have h1 := h.below hb1
    have hpbne : g.va.ownBlock ≠ some pb := fun e => by
      obtain ⟨cs, hc⟩ := (h1.rowA g hgm).block e
      exact ne_typeX hc h1.blk (by decide) rfl
    have hpb4 : w4.heap[pb]? = some (.cells #[vw, .int .i64 a, .slice (some ⟨gb, 0, none⟩) (N + 1) cap, .int .i64 b] 143 (0, 0)) := by
      rw [hg.block pb h1.pbl (fun e => hpbne e.symm), h1.blk, hN]
    refine ⟨hpb4, fun W hW blk => ?_⟩
    have hs4 := hg.size
    have hWs : w4.heap.size ≤ W.heap.size := hW.size
    have hW4 : ∀ k, k < w4.heap.size → k ≠ pb → W.heap[k]? = w4.heap[k]? := fun k hk hne => hW.block k hk (by simpa using hne)
    have hne4 : ∀ k, K' k → k ≠ pb := fun k hk => by
      rcases hY.2 k hk with hk | ⟨hk, _⟩
      · obtain ⟨cs, hc⟩ := h1.kt k hk
        exact ne_typeX hc h1.blk (by decide)
      · have := h1.pbl; omega
    have hpop : PsAt B W pb K' vw a b (.slice (some ⟨gb, 0, none⟩) (gi ++ [g0]).length cap) (gi ++ [g0]) := by
      refine h1.popped (fun k hl hk hv => ?_) (by omega) (by rw [← hN]; exact blk) hY.1 (fun k hk => ?_)
      · rw [hW4 k (by omega) hk, hg.block k hl (fun e => hv e.symm)]
      · rcases hY.2 k hk with hk1 | ⟨hk1, cs, hc⟩
        · exact Or.inl hk1
        · exact Or.inr ⟨hk1, cs, (hW4 k (Array.getElem?_eq_some_iff.1 hc).1 (hne4 k hk)).trans hc⟩
    have hXW : RxK K' W (.slice none 0 0) (Rx.mk 4 [] []).kids := RxK.nil none 0
    refine (put_any (r := .mk 4 [] []) hpop hXW (by rw [show gi.length = Gi.length by rw [← hgi]; simp]; omega) (by rw [← List.length_map (f := Prod.fst), hgp0]; exact hp0)).mono ?_
    rintro en w' ⟨rfl, v', hps, hbl⟩
    refine ⟨rfl, ⟨_, _, _, hps, ?_⟩, ?_⟩
    · simp [Grp.abs, hgi, hga0, hgp0]
    · have hBw : B ≤ w.heap.size := by have := h.pbl; have := h.hB; omega
      have b1 : Below B w w1 := hb1.mono hBw
      have b4 : Below B w w4 := b1.grown hg (by have := hb1.size; omega) fun k hk => ((h1.rowA g hgm).own.lt k hk).1
      have b6 : Below B w W := b4.grown hW (by have := hb1.size; omega) fun k hk => by
        injection hk with hk
        rw [← hk]; exact h.hB
      exact b6.trans hbl : w4.heap[pb]? = some (.cells #[vw, .int .i64 a, .slice (some ⟨gb, 0, none⟩) (N + 1) cap, .int .i64 b] 143 (0, 0)) ∧ Hid (∀ (W : World), w4.grownBy W (some pb) → W.heap[pb]? = some (.cells #[vw, .int .i64 a, .slice (some ⟨gb, 0, none⟩) N cap, .int .i64 b] 143 (0, 0)) → Calls Tryz.prog 124 #[.pointer (some ⟨pb, 0, none⟩), .agg #[.int .i64 4, .string (tx []), .slice none 0 0]] W fun en w' => StPost B w pb vw a b (Gi ++ [(A0, P0 ++ [.mk 4 [] []])]) en w')))
  have HNN := hid hN
  have HGI := hid hgi
  have HGA := hid hga0
  have HGP := hid hgp0
  clear h habs hgs1 hga hgp hrA hrP hna hnp hnA hnP hN hgi hga0 hgp0 hva hvp k0 k1 hr hP hgb hnn hNl
  have hcs : (na = 0 ∧ np = 0) ∨ (na = 0 ∧ 0 < np) ∨ (0 < na ∧ 0 < np) := by have := HX.out; omega
  have hb3 : ∃ x y z : Bool, ((na : Int) == 0) = x ∧ ((np : Int) == 0) = y ∧ decide (0 < np) = z ∧ ((x = true ∧ y = true ∧ z = false) ∨ (x = true ∧ y = false ∧ z = true) ∨ (x = false ∧ y = false ∧ z = true)) := by
    refine ⟨_, _, _, rfl, rfl, rfl, ?_⟩
    rcases hcs with ⟨h1, h2⟩ | ⟨h1, h2⟩ | ⟨h1, h2⟩
    · left; simp [h1, h2]
    · right; left; simp [h1]; omega
    · right; right; simp; omega
  obtain ⟨x, y, z, b1, b2, b3, hxyz⟩ := hb3
  clear hcs HX
  rcases hxyz with ⟨rfl, rfl, rfl⟩ | ⟨rfl, rfl, rfl⟩ | ⟨rfl, rfl, rfl⟩
  all_goals (
    go_enter Tryz.func120, Tryz.ntmps120
    go_wp2_with fail
    refine HL.out.mono ?_
    rintro en w1 ⟨rfl, hb1⟩
    obtain ⟨⟨z0, z1⟩, z2, f2⟩ := HC.out _ hb1
    have B1 := hid hb1
    clear hb1 HL
    go_wp2_with fail
    refine (HO.out _ z2).mono ?_
    rintro en w2 ⟨rfl, rfl⟩
    go_wp2_with fail
    try rw [b3]
    refine must_true.mono ?_
    rintro en w2 ⟨rfl, rfl⟩
    go_wp2_with fail
    refine (HW.out _ B1.out).mono ?_
    rintro en w4 ⟨ht, hg⟩
    obtain ⟨u, n, c, K', rfl, X4, Y4⟩ := ht
    obtain ⟨K4, hX4, hY4⟩ : ∃ K4, RxK K4 w4 (.slice u n c) r.kids ∧ ((∀ g, K g → K4 g) ∧ ∀ g, K4 g → K g ∨ w1.heap.size ≤ g ∧ ∃ cs, w4.heap[g]? = some (.cells cs 25 (0, 0))) := ⟨K', X4.out, Y4.out⟩
    clear X4 Y4
    obtain ⟨hpb4, HPUT⟩ := HFIN.out w1 w4 u n c K4 B1.out hg hX4 hY4
    clear hg hX4 hY4 z0 z1 z2 f2
    have t2 : ∀ o, (w4.alloc o).cell? ⟨pb, 2, none⟩ = some (.slice (some ⟨gb, 0, none⟩) (N + 1) cap) := fun o => by rw [cell_at (new_old _ o hpb4)]; rfl
    have t2' : ∀ o, (w4.alloc o).drew.cell? ⟨pb, 2, none⟩ = some (.slice (some ⟨gb, 0, none⟩) (N + 1) cap) := t2
    have s2 : ∀ o, (w4.alloc o).frozen? ⟨pb, 2, none⟩ = false := fun o => free_of (new_old _ o hpb4)
    have hpl4 : pb < w4.heap.size := (Array.getElem?_eq_some_iff.1 hpb4).1
    have hpb4' := hid hpb4
    clear hpb4
    go_wp2_with fail
    refine (HO.out _ (t2 _)).mono ?_
    rintro en w5 ⟨rfl, rfl⟩
    go_wp2_with fail
    go_region_with (go_at_call 93; refine (HO.out _ (t2' _)).mono ?_; rintro en w6 ⟨rfl, rfl⟩)
    all_goals (
      go_wp2_with fail
      refine (HPUT.out _ ?g1 ?g2).mono ?_
      case g1 => repeat (first | exact grown_id _ _ | apply grown_dr | apply grown_pb | apply grown_new | refine grown_far ?_ (by omega) _ _)
      case g2 => exact pb_far hpb4'.out _ _
     
      rintro en w7 hst
      obtain rfl : en = .returned (.tuple #[]) := hst.1
      have HST := hid hst
      clear hst
      go_wp2
      exact bodyPost_end (v := .tuple #[]) (by simp [results, Tryz.results120, go_sem]) rfl HST.out))
end Go.Proofs.YtagppgncanimaaaGreatDoor
