/-
  The document's tables of a path's parts, as mathematics.
  What the law RegexMeans says of paths, as mathematics.
  A path that Match finds is one of the expression's, and every one is found.
  Which paths are of an expression, and that the spots tell them.
  An expression that came in as an argument, opened.
  The law's own run.
-/
import Derived.Test.YtnmmfbhmfcabhaaGreatDoorZTakeAnd
import Derived.Test.YtnmmfbhmfcabhaaGreatDoorZGoesAnd
import Derived.Test.YtnmmfbhmfcabhaaGreatDoorWKindAnd
import Derived.WalkKit
import Derived.ProofKit
import Derived.OpenShut
import Derived.ShutString
import Derived.Deep.Slices
import Derived.ChangeArms
import Derived.SliceStrings
import Derived.Test.YtnmmfbhmfcabhaaGreatDoorYJoinAnd
namespace Go.Proofs.YtnmmfbhmfcabhaaGreatDoor
open Go.RowKit

theorem z_fit : zR.Fit := by
  simp [Rx.Fit, Rx.all_eq, Rx.kids, Rx.name, maxLen]
theorem z_chk : chkN zR = 0 := by
  have h1 : Wo.nameB [97] = true := by kernel_rfl
  have h2 : Wo.nameB [98] = true := by kernel_rfl
  have h3 : Wo.nameB [99] = true := by kernel_rfl
  have h4 : Wo.nameB [99, 111, 114, 101] = true := by kernel_rfl
  simp [chkN, Rx.nodes_eq, Rx.deep_eq, Rx.all_eq, Rx.kids, nodeB, Rx.op, Rx.name, noneB, h1, h2, h3, h4]
theorem z_wds : zR.wds = [[97], [46], [42], [36], [99, 111, 114, 101], [40], [98], [124], [99], [41], [43]] := by
  simp [Rx.wds, tg, kwd, altW, sgn1, Rx.op, Rx.kids]
theorem z_prs : prS zR = zText := by
  unfold prS
  rw [if_pos z_chk, z_wds]
  decide
theorem z_yes : matchB zR [([97], []), ([113], [[99, 111, 114, 101]]), ([99], [])] = true := by
  simp [matchB, runS, Sp.of, Sp.take, noneS, firsts, endsR, fitB, Sp.em, Sp.en]
theorem z_no : matchB zR [([97], []), ([99], [])] = false := by
  simp [matchB, runS, Sp.of, Sp.take, noneS, firsts, endsR, fitB, Sp.em, Sp.en]

theorem z_path1 (w : World) : PathAt ((w.alloc (.cells #[.string (tx [99, 111, 114, 101])] 9)).alloc (.cells #[.string (tx [97]), .slice none 0 0, .string (tx [113]), .slice (some ⟨w.heap.size, 0, none⟩) 1 1, .string (tx [99]), .slice none 0 0] 66)) (.slice (some ⟨w.heap.size + 1, 0, none⟩) 3 3) [([97], []), ([113], [[99, 111, 114, 101]]), ([99], [])] := by
  refine ⟨_, 3, rfl, Or.inr ⟨w.heap.size + 1, 0, rfl, by simp, fun i p hp => ?_⟩⟩
  have hb := new_1 w (.cells #[.string (tx [99, 111, 114, 101])] 9) (.cells #[.string (tx [97]), .slice none 0 0, .string (tx [113]), .slice (some ⟨w.heap.size, 0, none⟩) 1 1, .string (tx [99]), .slice none 0 0] 66)
  match i, hp with
  | 0, hp =>
    simp at hp
    subst hp
    exact ⟨by simp, none, 0, 0, by rw [cell_at hb]; rfl, by rw [cell_at hb]; rfl, Txs.nil _ _ _⟩
  | 1, hp =>
    simp at hp
    subst hp
    refine ⟨by simp [maxLen], some ⟨w.heap.size, 0, none⟩, 1, 1, by rw [cell_at hb]; rfl, by rw [cell_at hb]; rfl, _, 1, rfl, Or.inr ⟨w.heap.size, 0, rfl, by simp; omega, fun j hj => ?_⟩⟩
    have hj0 : j = 0 := by simp at hj; omega
    subst hj0
    rw [cell_at (new_old _ _ (new_0 w _))]
    rfl
  | 2, hp =>
    simp at hp
    subst hp
    exact ⟨by simp, none, 0, 0, by rw [cell_at hb]; rfl, by rw [cell_at hb]; rfl, Txs.nil _ _ _⟩
theorem z_path2 (w : World) : PathAt (w.alloc (.cells #[.string (tx [97]), .slice none 0 0, .string (tx [99]), .slice none 0 0] 66)) (.slice (some ⟨w.heap.size, 0, none⟩) 2 2) [([97], []), ([99], [])] := by
  refine ⟨_, 2, rfl, Or.inr ⟨w.heap.size, 0, rfl, by simp, fun i p hp => ?_⟩⟩
  have hb := new_0 w (.cells #[.string (tx [97]), .slice none 0 0, .string (tx [99]), .slice none 0 0] 66)
  match i, hp with
  | 0, hp =>
    simp at hp
    subst hp
    exact ⟨by simp, none, 0, 0, by rw [cell_at hb]; rfl, by rw [cell_at hb]; rfl, Txs.nil _ _ _⟩
  | 1, hp =>
    simp at hp
    subst hp
    exact ⟨by simp, none, 0, 0, by rw [cell_at hb]; rfl, by rw [cell_at hb]; rfl, Txs.nil _ _ _⟩

set_option maxRecDepth 20000 in
set_option maxHeartbeats 4000000 in
theorem awake9 : Awake9 := by
  intro w
  have HP := hid (fun (W : World) => (by
    have := gParse_ok (w := W) (s := zText) (ls := Wo.read zText) (A := []) (P := zP) (by decide) rfl z_read.1 (by have h := congrArg List.length z_read.2.1; rw [List.length_map] at h; rw [h]; decide) (by rw [z_read.2.2]; decide) (by rw [z_read.2.1]; exact z_goes) (by simp) (by simp [nodesL, Rx.nodes_eq, Rx.kids]) (by rw [z_whole]; exact z_fit) (by rw [z_whole]; exact z_chk)
    rw [z_whole] at this
    exact this : Calls Tryz.prog 15 #[.string (tx zText)] W fun e w' => ∃ u n c, e = .returned (.tuple #[.agg #[.int .i64 zR.op, .string (tx zR.name), .slice u n c], .int .i64 0, .int .i64 0, .int .i64 0]) ∧ Hid (RxS w' (.slice u n c) zR.kids) ∧ Below W.heap.size W w'))
  have HPR := hid (fun (W : World) (v : Value) (hS : RxS W v zR.kids) => (by
    have := gPrint_any hS z_fit
    rw [z_prs, z_chk] at this
    exact this : Calls Tryz.prog 8 #[.agg #[.int .i64 zR.op, .string (tx zR.name), v]] W fun e w' => e = .returned (.tuple #[.string (tx zText), .int .i64 ((0 : Nat) : Int)]) ∧ Below W.heap.size W w'))
  have HM1 := hid (fun (W : World) (v vp : Value) (hS : RxS W v zR.kids) (hp : PathAt W vp [([97], []), ([113], [[99, 111, 114, 101]]), ([99], [])]) => (by
    have := gMatch_ok hS z_fit z_chk hp (by decide) (by simp)
    rw [z_yes] at this
    exact this : Calls Tryz.prog 19 #[.agg #[.int .i64 zR.op, .string (tx zR.name), v], vp] W fun e w' => e = .returned (.tuple #[.bool true, .int .i64 0]) ∧ Below W.heap.size W w'))
  have HM2 := hid (fun (W : World) (v vp : Value) (hS : RxS W v zR.kids) (hp : PathAt W vp [([97], []), ([99], [])]) => (by
    have := gMatch_ok hS z_fit z_chk hp (by decide) (by simp)
    rw [z_no] at this
    exact this : Calls Tryz.prog 19 #[.agg #[.int .i64 zR.op, .string (tx zR.name), v], vp] W fun e w' => e = .returned (.tuple #[.bool false, .int .i64 0]) ∧ Below W.heap.size W w'))
  rw [show zR.op = 4 from rfl, show zR.name = [] from rfl] at HP HPR HM1 HM2
  go_enter Tryz.func14, Tryz.ntmps14
  go_wp2_with fail
  refine (HP.out _).mono ?_
  rintro en w1 ⟨u, n, c, rfl, X1, hb1⟩
  obtain ⟨uo, uc, hun, -⟩ := X1.out.at
  cases hun
  rw [show zR.kids.length = 4 from rfl] at *
  have HX := hid (fun (W : World) (hb : Below w1.heap.size w1 W) => X1.out.on hb)
  clear X1
  have HB1 := hid hb1
  clear hb1
  go_wp2_with fail
  refine (HPR.out _ _ (HX.out _ ((Below.refl _ _).alloc (Nat.le_refl _) _))).mono ?_
  rintro en w2 ⟨rfl, hb2⟩
  have hs2 : w1.heap.size + 1 ≤ w2.heap.size := by have := hb2.size; simpa using this
  have hbx := (hb2.block w1.heap.size (by simp)).trans (new_0 _ _)
  have x0 : w2.cell? ⟨w1.heap.size, 0, none⟩ = some (.int .i64 4) := by rw [cell_at hbx]; rfl
  have x1 : w2.cell? ⟨w1.heap.size, 1, none⟩ = some (.string (tx [])) := by rw [cell_at hbx]; rfl
  have x2 : w2.cell? ⟨w1.heap.size, 2, none⟩ = some (.slice u 4 c) := by rw [cell_at hbx]; rfl
  have B2 := hid (show Below w1.heap.size w1 w2 from ((Below.refl _ _).alloc (Nat.le_refl _) _).trans (hb2.mono (by simp)))
  have BX := hid hbx
  clear hb2 hbx
  have HQ1 := hid (fun (o1 o2 : Obj) => (B2.out.alloc (by omega) o1).alloc (by simp; omega) o2)
  go_wp2_with fail
  refine (HM1.out _ _ _ (HX.out _ (HQ1.out _ _)) (z_path1 w2)).mono ?_
  rintro en w3 ⟨rfl, hb3⟩
  have B3 := hid (show Below w1.heap.size w1 w3 from (HQ1.out (.cells #[.string (tx [99, 111, 114, 101])] 9) (.cells #[.string (tx [97]), .slice none 0 0, .string (tx [113]), .slice (some ⟨w2.heap.size, 0, none⟩) 1 1, .string (tx [99]), .slice none 0 0] 66)).trans (hb3.mono (by simp; omega)))
  have hs3 : w2.heap.size + 2 ≤ w3.heap.size := by have := hb3.size; simpa using this
  have hbx := (hb3.block w1.heap.size (by simp; omega)).trans ((Below.heap_alloc _ _ _ (by simp; omega)).trans ((Below.heap_alloc _ _ _ (by omega)).trans BX.out))
  clear x0 x1 x2
  have x0 : w3.cell? ⟨w1.heap.size, 0, none⟩ = some (.int .i64 4) := by rw [cell_at hbx]; rfl
  have x1 : w3.cell? ⟨w1.heap.size, 1, none⟩ = some (.string (tx [])) := by rw [cell_at hbx]; rfl
  have x2 : w3.cell? ⟨w1.heap.size, 2, none⟩ = some (.slice u 4 c) := by rw [cell_at hbx]; rfl
  clear hb3 hbx
  have HQ2 := hid (fun (o1 : Obj) => B3.out.alloc (by omega) o1)
  go_wp2_with fail
  refine (HM2.out _ _ _ (HX.out _ (HQ2.out _)) (z_path2 w3)).mono ?_
  rintro en w4 ⟨rfl, hb4⟩
  have B4 := hid (show Below w.heap.size w w4 from below_2x HB1.out ((HQ2.out (.cells #[.string (tx [97]), .slice none 0 0, .string (tx [99]), .slice none 0 0] 66)).trans (hb4.mono (by simp; omega))))
  clear hb4
  go_wp2
  try (go_quiet (fail); go_wp2)
  go_ret
  exact ⟨rfl, B4.out⟩
end Go.Proofs.YtnmmfbhmfcabhaaGreatDoor
namespace Go.Proofs.YtnmmfbhmfcabhaaGreatDoor
open Go.ChangeShapes Go.WideShapes Go.ChangeAt Go.RowKit

theorem structOfX {P : Program} {t : TypeId} {l : List (TypeId × Nat)} (h : (match P.underlying t with | some (.struct fs) => decide (fs.toList.map (fun f => (f.type, f.offset)) = l) | _ => false) = true) : ∃ fs, P.underlying t = some (.struct fs) ∧ fs.toList.map (fun f => (f.type, f.offset)) = l := by
  split at h
  · rename_i fs e
    exact ⟨fs, e, of_decide_eq_true h⟩
  · cases h
theorem fieldOfX {fs : Array Field} {l : List (TypeId × Nat)} (h : fs.toList.map (fun f => (f.type, f.offset)) = l) {i : Nat} {ty : TypeId} {off : Nat} (hi : l[i]? = some (ty, off)) : ∃ f, fs[i]? = some f ∧ f.type = ty ∧ f.offset = off := by
  rw [← h, List.getElem?_map, Option.map_eq_some_iff] at hi
  obtain ⟨f, hf, e⟩ := hi
  simp only [Prod.mk.injEq] at e
  exact ⟨f, by simpa using hf, e.1, e.2⟩
theorem addrAddX (g o i : Nat) : (⟨g, o, none⟩ : Addr).add i = ⟨g, o + i, none⟩ := by
  unfold Addr.add; split <;> simp_all
theorem addrOfX {w : World} {a : Addr} {v : Value} (h : w.cell? (a.add 0) = some v) : (∃ g o, a = ⟨g, o, none⟩) ∧ a.block < w.heap.size := by
  have e : a.add 0 = a := by unfold Addr.add; simp
  rw [e] at h
  obtain ⟨g, o, sp⟩ := a
  have hlt : g < w.heap.size := World.block_lt_of_cell? w _ h
  refine ⟨?_, hlt⟩
  cases sp with
  | none => exact ⟨g, o, rfl⟩
  | some s =>
    exfalso
    unfold World.cell? at h
    simp only [Option.isSome_some, if_true] at h
    split at h <;> cases h
theorem Rx.Fit.mk {r : Rx} (h : r.name.length ≤ maxLen) (hk : ∀ k ∈ r.kids, k.Fit) : r.Fit := (Rx.all_iff _ _).2 ⟨decide_eq_true h, hk⟩

section
variable {H : Type} {enc : TypeId × Value → H} {w : World} {base : Nat} {spare : Nat → Bool} {held : Bool}

set_option maxRecDepth 100000 in
theorem open_regex (fuel : Nat) : ∀ {cs : List Value} {x : DataW H × List MemPlace}, DataW.trod enc Tryz.prog w base spare held fuel 25 cs = some x → ∃ (r : Rx) (v : Value), cs = [.int .i64 r.op, .string (tx r.name), v] ∧ RxS w v r.kids ∧ r.Fit := by
  induction fuel using Nat.strongRecOn with
  | ind fuel ih =>
    intro cs x h
    obtain ⟨fs, hfs, hl⟩ := structOfX (P := Tryz.prog) (t := 25) (l := [(22, 0), (9, 1), (23, 2)]) (by kernel_rfl)
    obtain ⟨xs, n, hn, _, hlen, hxl, hf⟩ := DataW.trod_struct hfs h
    have hc : Tryz.prog.cellsOf 25 = 3 := by kernel_rfl
    rw [hc] at hlen
    have hsz : fs.size = 3 := by have := congrArg List.length hl; simpa using this
    match cs, hlen with
    | [c0, c1, c2], _ =>
      obtain ⟨f0, e0, t0, o0⟩ := fieldOfX hl (i := 0) rfl
      obtain ⟨f1, e1, t1, o1⟩ := fieldOfX hl (i := 1) rfl
      obtain ⟨f2, e2, t2, o2⟩ := fieldOfX hl (i := 2) rfl
      have g0 := hf 0 f0 e0
      have g1 := hf 1 f1 e1
      have g2 := hf 2 f2 e2
      rw [t0, o0, show Tryz.prog.cellsOf 22 = 1 by kernel_rfl, List.getElem?_eq_getElem (show 0 < xs.length by omega)] at g0
      rw [t1, o1, show Tryz.prog.cellsOf 9 = 1 by kernel_rfl, List.getElem?_eq_getElem (show 1 < xs.length by omega)] at g1
      rw [t2, o2, show Tryz.prog.cellsOf 23 = 1 by kernel_rfl, List.getElem?_eq_getElem (show 2 < xs.length by omega)] at g2
      obtain ⟨p, hp, _, _⟩ := DataW.trod_int (k := .i64) (by kernel_rfl) g0
      obtain ⟨m, hm1, _, hms⟩ := DataW.trod_string Tryz.underlying9 g1
      simp at hp hm1
      subst hp hm1
      have g2' : DataW.trod enc Tryz.prog w base spare held n 23 [c2] = some xs[2] := by simpa using g2
      have hmn : m.data.toList.length ≤ maxLen := by rw [list_size]; exact hms
      rcases DataW.trod_slice Tryz.underlying23 g2' with ⟨hcs, _⟩ | ⟨a, len, cap, elems, rest, n2, hn2, hcs, _, _, hlc, _, hel, helem, _, _⟩
      · simp only [List.cons.injEq, and_true] at hcs
        refine ⟨.mk p m.data.toList [], c2, rfl, by rw [hcs]; exact .nil _ _, Rx.Fit.mk hmn fun k hk => absurd hk (by simp [Rx.kids])⟩
      · simp only [List.cons.injEq, and_true] at hcs
        subst hcs
        rw [hc] at helem
        have each : ∀ i, i < len → ∃ q : Rx × Value, w.cell? (a.add (i * 3)) = some (.int .i64 q.1.op) ∧ w.cell? ((a.add (i * 3)).add 1) = some (.string (tx q.1.name)) ∧ w.cell? ((a.add (i * 3)).add 2) = some q.2 ∧ RxS w q.2 q.1.kids ∧ q.1.Fit := by
          intro i hi
          have h1 := helem i hi
          rw [List.getElem?_eq_getElem (show i < elems.length by omega), Option.bind_eq_some_iff] at h1
          obtain ⟨cs', h2, h3⟩ := h1
          obtain ⟨_, _, hcell⟩ := World.cells?_some h2
          obtain ⟨r, v, rfl, h4, h5⟩ := ih n2 (by omega) h3
          have c0 := hcell 0 (by omega)
          have c1 := hcell 1 (by omega)
          have c2 := hcell 2 (by omega)
          have e0 : (a.add (i * 3)).add 0 = a.add (i * 3) := by unfold Addr.add; simp
          rw [e0] at c0
          exact ⟨(r, v), c0, c1, c2, h4, h5⟩
        by_cases h0 : len = 0
        · subst h0
          exact ⟨.mk p m.data.toList [], _, rfl, .nil _ _, Rx.Fit.mk hmn fun k hk => absurd hk (by simp [Rx.kids])⟩
        have : Inhabited (Rx × Value) := ⟨(.mk 0 [] [], .bool false)⟩
        obtain ⟨q, hq⟩ := Go.Deep.choose_lt each
        obtain ⟨⟨g, o, rfl⟩, hb⟩ := addrOfX (v := .int .i64 (q 0).1.op) (by have := (hq 0 (by omega)).1; rw [Nat.zero_mul] at this; exact this)
        have hkl : ((List.range len).map fun i => (q i).1).length = len := by simp
        refine ⟨.mk p m.data.toList ((List.range len).map fun i => (q i).1), _, rfl, ?_, Rx.Fit.mk hmn fun k hk => ?_⟩
        · show RxS w (.slice (some ⟨g, o, none⟩) len cap) ((List.range len).map fun i => (q i).1)
          have hs := RxS.some (w := w) g o cap ((List.range len).map fun i => (q i).1) ((List.range len).map fun i => (q i).2) hb (by simp) (fun i k v hk hv => ?_) (fun i k v hk hv => ?_)
          · rw [hkl] at hs; exact hs
          · rw [List.getElem?_map, Option.map_eq_some_iff] at hk hv
            obtain ⟨i', hi', rfl⟩ := hk
            obtain ⟨i'', hi'', rfl⟩ := hv
            rw [hi'] at hi''
            cases hi''
            obtain ⟨hi, rfl⟩ := List.getElem?_eq_some_iff.1 hi'
            simp only [List.length_range] at hi
            simp only [List.getElem_range]
            obtain ⟨c0, c1, c2, _, _⟩ := hq i hi
            rw [addrAddX] at c0 c1 c2
            rw [addrAddX] at c1 c2
            exact ⟨c0, c1, c2⟩
          · rw [List.getElem?_map, Option.map_eq_some_iff] at hk hv
            obtain ⟨i', hi', rfl⟩ := hk
            obtain ⟨i'', hi'', rfl⟩ := hv
            rw [hi'] at hi''
            cases hi''
            obtain ⟨hi, rfl⟩ := List.getElem?_eq_some_iff.1 hi'
            simp only [List.length_range] at hi
            simp only [List.getElem_range]
            exact (hq i hi).2.2.2.1
        · obtain ⟨i, hi, rfl⟩ := List.mem_map.1 (show k ∈ (List.range len).map fun i => (q i).1 from hk)
          exact (hq i (List.mem_range.1 hi)).2.2.2.2
end
end Go.Proofs.YtnmmfbhmfcabhaaGreatDoor
namespace Go.Proofs.YtnmmfbhmfcabhaaGreatDoor
open Go.RowKit

/-- A device of a path. -/
abbrev Dv := List UInt8 × List (List UInt8)
abbrev Lng := Whos → Prop
def fitD (d : Dv) : Int → List UInt8 → Bool := fitB d.1 d.2
/-- One path behind another. -/
def concL (A B : Lng) : Lng := fun ps => ∃ u v, ps = u ++ v ∧ A u ∧ B v
def seqL : List Lng → Lng
  | [] => fun ps => ps = []
  | A :: t => concL A (seqL t)
/-- Once or more. -/
inductive PlusL (A : Lng) : Lng where
  | one (ps : Whos) (h : A ps) : PlusL A ps
  | more (u v : Whos) (h : PlusL A u) (h2 : A v) : PlusL A (u ++ v)
def altL (ts : List Lng) : Lng := fun ps => ∃ A ∈ ts, A ps
/-- The paths of an expression. -/
def Rx.L : Rx → Lng
  | .mk o n ks => if o = 4 then seqL (ks.map Rx.L) else if o = 5 then altL (ks.map Rx.L) else if o = 6 then (fun ps => ps = [] ∨ PlusL (altL (ks.map Rx.L)) ps) else if o = 7 then PlusL (altL (ks.map Rx.L)) else if o = 8 then (fun ps => ps = [] ∨ altL (ks.map Rx.L) ps) else fun ps => ∃ d : Dv, ps = [d] ∧ fitD d o n = true
theorem Rx.L_eq (r : Rx) : r.L = if r.op = 4 then seqL (r.kids.map Rx.L) else if r.op = 5 then altL (r.kids.map Rx.L) else if r.op = 6 then (fun ps => ps = [] ∨ PlusL (altL (r.kids.map Rx.L)) ps) else if r.op = 7 then PlusL (altL (r.kids.map Rx.L)) else if r.op = 8 then (fun ps => ps = [] ∨ altL (r.kids.map Rx.L) ps) else fun ps => ∃ d : Dv, ps = [d] ∧ fitD d r.op r.name = true := by
  cases r
  rw [Rx.L]; rfl

/-- Devices, each with whether a path may begin with it. -/
abbrev Fl := List (Dv × Bool)
def runF (s : Sp) (xs : Fl) : Sp := xs.foldl (fun s x => s.take (fitD x.1) x.2) s
theorem runF_nil (s : Sp) : runF s [] = s := rfl
theorem runF_cons (s : Sp) (x : Dv × Bool) (xs : Fl) : runF s (x :: xs) = runF (s.take (fitD x.1) x.2) xs := rfl
theorem runF_app (s : Sp) (xs ys : Fl) : runF s (xs ++ ys) = runF (runF s xs) ys := by simp [runF, List.foldl_append]
theorem runF_op (s : Sp) (xs : Fl) : (runF s xs).op = s.op ∧ (runF s xs).name = s.name ∧ (runF s xs).em = s.em := by
  induction xs generalizing s with
  | nil => exact ⟨rfl, rfl, rfl⟩
  | cons x xs ih =>
    rw [runF_cons]
    obtain ⟨a, b, c⟩ := ih (s.take (fitD x.1) x.2)
    obtain ⟨a', b', c'⟩ := s.take_op (fitD x.1) x.2
    exact ⟨a.trans a', b.trans b', c.trans c'⟩
/-- A path of A ends with the last device. -/
def Ends (A : Lng) (xs : Fl) : Prop := ∃ (ys : Fl) (z : Dv × Bool) (zs : Fl), xs = ys ++ z :: zs ∧ z.2 = true ∧ A (z.1 :: zs.map Prod.fst)
theorem Ends.not_nil {A : Lng} (h : Ends A []) : False := by
  obtain ⟨ys, z, zs, h, _⟩ := h
  simp at h
theorem Ends.pre {A : Lng} {xs : Fl} (ys : Fl) (h : Ends A xs) : Ends A (ys ++ xs) := by
  obtain ⟨a, z, zs, rfl, h1, h2⟩ := h
  exact ⟨ys ++ a, z, zs, by simp, h1, h2⟩

/-- Flags of a kid behind another one. -/
def hF : Sp → Fl → Fl
  | _, [] => []
  | k, x :: xs => (x.1, k.en || x.2 && k.em) :: hF (k.take (fitD x.1) x.2) xs
theorem hF_app (k : Sp) (xs ys : Fl) : hF k (xs ++ ys) = hF k xs ++ hF (runF k xs) ys := by
  induction xs generalizing k with
  | nil => rfl
  | cons x xs ih => show _ :: hF _ (xs ++ ys) = _; rw [ih]; rfl
theorem hF_fst (k : Sp) (xs : Fl) : (hF k xs).map Prod.fst = xs.map Prod.fst := by
  induction xs generalizing k with
  | nil => rfl
  | cons x xs ih => show x.1 :: (hF _ xs).map Prod.fst = _; rw [ih]; rfl
theorem hF_len (k : Sp) (xs : Fl) : (hF k xs).length = xs.length := by
  have := congrArg List.length (hF_fst k xs)
  simpa using this
/-- Flags of the kid of a node that begins anew. -/
def gF : Sp → Fl → Fl
  | _, [] => []
  | s, x :: xs => (x.1, x.2 || s.en) :: gF (s.take (fitD x.1) x.2) xs
theorem gF_app (k : Sp) (xs ys : Fl) : gF k (xs ++ ys) = gF k xs ++ gF (runF k xs) ys := by
  induction xs generalizing k with
  | nil => rfl
  | cons x xs ih => show _ :: gF _ (xs ++ ys) = _; rw [ih]; rfl
theorem gF_fst (k : Sp) (xs : Fl) : (gF k xs).map Prod.fst = xs.map Prod.fst := by
  induction xs generalizing k with
  | nil => rfl
  | cons x xs ih => show x.1 :: (gF _ xs).map Prod.fst = _; rw [ih]; rfl
theorem gF_len (k : Sp) (xs : Fl) : (gF k xs).length = xs.length := by
  have := congrArg List.length (gF_fst k xs)
  simpa using this
theorem splitFl {xs : Fl} {n : Nat} (h : n < xs.length) : ∃ ys z zs, xs = ys ++ z :: zs ∧ ys.length = n := by
  refine ⟨xs.take n, xs[n], xs.drop (n + 1), ?_, by simp; omega⟩
  rw [← List.drop_eq_getElem_cons h, List.take_append_drop]
theorem ends_h {A : Lng} (k : Sp) (xs : Fl) : Ends A (hF k xs) ↔ ∃ ys z zs, xs = ys ++ z :: zs ∧ ((runF k ys).en || z.2 && k.em) = true ∧ A (z.1 :: zs.map Prod.fst) := by
  constructor
  · rintro ⟨Y, Z, ZS, h, hz, hA⟩
    have hl := hF_len k xs
    rw [h] at hl
    obtain ⟨ys, z, zs, rfl, hy⟩ := splitFl (xs := xs) (n := Y.length) (by rw [← hl]; simp)
    rw [hF_app] at h
    obtain ⟨h1, h2⟩ := List.append_inj h (by rw [hF_len, hy])
    injection h2 with h3 h4
    subst h3
    refine ⟨ys, z, zs, rfl, ?_, ?_⟩
    · have := hz
      simp only [(runF_op k ys).2.2] at this
      exact this
    · rw [← h4, hF_fst] at hA; exact hA
  · rintro ⟨ys, z, zs, rfl, h1, h2⟩
    refine ⟨hF k ys, (z.1, (runF k ys).en || z.2 && (runF k ys).em), hF _ zs, by rw [hF_app]; rfl, by rw [(runF_op k ys).2.2]; exact h1, by rw [hF_fst]; exact h2⟩
theorem ends_g {A : Lng} (k : Sp) (xs : Fl) : Ends A (gF k xs) ↔ ∃ ys z zs, xs = ys ++ z :: zs ∧ (z.2 || (runF k ys).en) = true ∧ A (z.1 :: zs.map Prod.fst) := by
  constructor
  · rintro ⟨Y, Z, ZS, h, hz, hA⟩
    have hl := gF_len k xs
    rw [h] at hl
    obtain ⟨ys, z, zs, rfl, hy⟩ := splitFl (xs := xs) (n := Y.length) (by rw [← hl]; simp)
    rw [gF_app] at h
    obtain ⟨h1, h2⟩ := List.append_inj h (by rw [gF_len, hy])
    injection h2 with h3 h4
    subst h3
    exact ⟨ys, z, zs, rfl, hz, by rw [← h4, gF_fst] at hA; exact hA⟩
  · rintro ⟨ys, z, zs, rfl, h1, h2⟩
    exact ⟨gF k ys, (z.1, z.2 || (runF k ys).en), gF _ zs, by rw [gF_app]; rfl, h1, by rw [gF_fst]; exact h2⟩
/-- The kids of a sequence. -/
def rowK : List Sp → Fl → List Sp
  | [], _ => []
  | k :: ks, xs => runF k xs :: rowK ks (hF k xs)
theorem rowK_nil (ks : List Sp) : rowK ks [] = ks := by
  induction ks with
  | nil => rfl
  | cons k t ih => show runF k [] :: rowK t [] = _; rw [ih]; rfl
theorem rowK_done (d : Dv) (xs : Fl) (ks : List Sp) : ∀ f, rowK (doneS (Sp.take (fitD d)) f ks) xs = rowK ks ((d, f) :: xs) := by
  induction ks generalizing xs with
  | nil => intro f; rfl
  | cons k t ih =>
    intro f
    show runF (k.take (fitD d) f) xs :: rowK (doneS (Sp.take (fitD d)) (k.en || f && k.em) t) (hF (k.take (fitD d) f) xs) = _
    rw [ih]
    rfl
theorem runF_seq (s : Sp) (h : s.op = 4) (xs : Fl) : (runF s xs).kids = rowK s.kids xs := by
  induction xs generalizing s with
  | nil => rw [rowK_nil]; rfl
  | cons x xs ih =>
    rw [runF_cons, ih _ ((s.take_op _ _).1.trans h), s.take_eq, if_pos h]
    exact rowK_done x.1 xs s.kids x.2
theorem runF_alt (s : Sp) (h : s.op = 5 ∨ s.op = 8) (xs : Fl) : (runF s xs).kids = s.kids.map fun k => runF k xs := by
  induction xs generalizing s with
  | nil => simp [runF]
  | cons x xs ih =>
    rw [runF_cons, ih _ (by rw [(s.take_op _ _).1]; exact h), s.take_eq, if_neg (by omega), if_pos (by omega), if_neg (by omega)]
    simp [Sp.kids, runF_cons]
theorem runF_plus (s : Sp) (h : s.op = 6 ∨ s.op = 7) (xs : Fl) : (runF s xs).kids = s.kids.map fun k => runF k (gF s xs) := by
  induction xs generalizing s with
  | nil => simp [runF, gF]
  | cons x xs ih =>
    rw [runF_cons, ih _ (by rw [(s.take_op _ _).1]; exact h), gF]
    have e : (s.take (fitD x.1) x.2).kids = s.kids.map fun k => k.take (fitD x.1) (x.2 || s.en) := by
      rw [s.take_eq, if_neg (by omega), if_pos (by omega), if_pos h]
      simp [Sp.kids]
    rw [e]
    simp [runF_cons]
/-- What a node's ends hangs on. -/
def Inv (s : Sp) : Prop := (s.op = 4 → s.en = endsR s.kids) ∧ (s.op = 5 ∨ s.op = 6 ∨ s.op = 7 ∨ s.op = 8 → s.en = s.kids.any Sp.en)
theorem Inv.take (s : Sp) (fit : Int → List UInt8 → Bool) (f : Bool) : Inv (s.take fit f) := by
  have ho := (s.take_op fit f).1
  refine ⟨fun h => ?_, fun h => ?_⟩
  · rw [ho] at h
    rw [s.take_eq, if_pos h]; rfl
  · rw [ho] at h
    rw [s.take_eq, if_neg (by omega), if_pos h]; rfl
theorem Inv.run {s : Sp} (h : Inv s) (xs : Fl) : Inv (runF s xs) := by
  induction xs generalizing s with
  | nil => exact h
  | cons x xs ih => rw [runF_cons]; exact ih (Inv.take s _ _)
theorem of_en (r : Rx) : (Sp.of r).en = false := by rw [Sp.of_eq]; rfl
theorem endsR_none (ks : List Rx) : endsR (ks.map Sp.of) = false := by
  unfold endsR
  induction ks with
  | nil => rfl
  | cons k t ih => rw [List.map_cons, List.foldl_cons, of_en]; exact ih
theorem Inv.of (r : Rx) : Inv (Sp.of r) := by
  refine ⟨fun _ => ?_, fun _ => ?_⟩
  · rw [of_en, Sp.of_eq]; exact (endsR_none r.kids).symm
  · rw [of_en, Sp.of_eq]
    show false = (r.kids.map Sp.of).any Sp.en
    symm
    rw [List.any_eq_false]
    intro k hk
    obtain ⟨x, _, rfl⟩ := List.mem_map.1 hk
    rw [of_en]; decide
end Go.Proofs.YtnmmfbhmfcabhaaGreatDoor
namespace Go.Proofs.YtnmmfbhmfcabhaaGreatDoor
open Go.RowKit

theorem seqL_nil (As : List Lng) : seqL As [] ↔ ∀ A ∈ As, A [] := by
  induction As with
  | nil => simp [seqL]
  | cons A t ih =>
    constructor
    · rintro ⟨u, v, h, h1, h2⟩
      obtain ⟨rfl, rfl⟩ := List.append_eq_nil_iff.1 h.symm
      intro B hB
      rcases List.mem_cons.1 hB with rfl | hB
      · exact h1
      · exact ih.1 h2 B hB
    · intro h
      exact ⟨[], [], rfl, h A (by simp), ih.2 fun B hB => h B (by simp [hB])⟩
theorem plusL_nil (A : Lng) : PlusL A [] ↔ A [] := by
  constructor
  · intro h
    generalize e : ([] : Whos) = p at h
    cases h with
    | one _ h => exact h
    | more u v _ h2 =>
      obtain ⟨rfl, rfl⟩ := List.append_eq_nil_iff.1 e.symm
      exact h2
  · exact .one _
theorem leaf_kids {r : Rx} (h : nodeB r = true) (h4 : r.op ≠ 4) (h5 : ¬(r.op = 5 ∨ r.op = 6 ∨ r.op = 7 ∨ r.op = 8)) : r.kids = [] := by
  unfold nodeB at h
  split at h
  · simp at h; exact h.2
  · split at h
    · simp at h; exact h.2
    · simp [show r.op ≠ 5 by omega, show r.op ≠ 6 by omega, show r.op ≠ 7 by omega, show r.op ≠ 8 by omega] at h
theorem em_iff (r : Rx) : Rx.all nodeB r = true → ((Sp.of r).em = true ↔ r.L []) := by
  induction r using Rx.ind with
  | h r ih =>
    intro ha
    obtain ⟨h1, h2⟩ := (Rx.all_iff _ _).1 ha
    have hany : ((r.kids.map Sp.of).any Sp.em = true) ↔ altL (r.kids.map Rx.L) [] := by
      rw [List.any_eq_true]
      constructor
      · rintro ⟨s, hs, he⟩
        obtain ⟨k, hk, rfl⟩ := List.mem_map.1 hs
        exact ⟨_, List.mem_map_of_mem hk, (ih k hk (h2 k hk)).1 he⟩
      · rintro ⟨A, hA, he⟩
        obtain ⟨k, hk, rfl⟩ := List.mem_map.1 hA
        exact ⟨_, List.mem_map_of_mem hk, (ih k hk (h2 k hk)).2 he⟩
    rw [Sp.of_eq, Rx.L_eq]
    show noneS r.op (r.kids.map Sp.of) = true ↔ _
    unfold noneS
    by_cases h4 : r.op = 4
    · rw [if_neg (by omega), if_pos h4, if_pos h4, seqL_nil, List.all_eq_true]
      constructor
      · intro h A hA
        obtain ⟨k, hk, rfl⟩ := List.mem_map.1 hA
        exact (ih k hk (h2 k hk)).1 (h _ (List.mem_map_of_mem hk))
      · intro h s hs
        obtain ⟨k, hk, rfl⟩ := List.mem_map.1 hs
        exact (ih k hk (h2 k hk)).2 (h _ (List.mem_map_of_mem hk))
    · rw [if_neg h4, if_neg h4]
      by_cases h5 : r.op = 5
      · rw [if_neg (by omega), if_pos h5]; exact hany
      · rw [if_neg h5]
        by_cases h6 : r.op = 6
        · rw [if_pos (by omega), if_pos h6]; simp
        · rw [if_neg h6]
          by_cases h7 : r.op = 7
          · rw [if_neg (by omega), if_pos h7, plusL_nil]; exact hany
          · rw [if_neg h7]
            by_cases h8 : r.op = 8
            · rw [if_pos (by omega), if_pos h8]; simp
            · rw [if_neg (by omega), if_neg h8, leaf_kids h1 h4 (by omega)]
              simp
theorem Ends.congr {A B : Lng} (h : ∀ d ps, A (d :: ps) ↔ B (d :: ps)) (xs : Fl) : Ends A xs ↔ Ends B xs := by
  constructor
  · rintro ⟨ys, z, zs, e, h1, h2⟩
    exact ⟨ys, z, zs, e, h1, (h _ _).1 h2⟩
  · rintro ⟨ys, z, zs, e, h1, h2⟩
    exact ⟨ys, z, zs, e, h1, (h _ _).2 h2⟩
theorem ends_alt (As : List Lng) (xs : Fl) : Ends (altL As) xs ↔ ∃ A ∈ As, Ends A xs := by
  constructor
  · rintro ⟨ys, z, zs, e, h1, A, hA, h2⟩
    exact ⟨A, hA, ys, z, zs, e, h1, h2⟩
  · rintro ⟨A, hA, ys, z, zs, e, h1, h2⟩
    exact ⟨ys, z, zs, e, h1, A, hA, h2⟩
theorem ends_conc (A B : Lng) (xs : Fl) : Ends (concL A B) xs ↔ (Ends A xs ∧ B []) ∨ ∃ ys z zs, xs = ys ++ z :: zs ∧ (Ends A ys ∨ z.2 = true ∧ A []) ∧ B (z.1 :: zs.map Prod.fst) := by
  constructor
  · rintro ⟨ys, z, zs, rfl, hz, u, v, e, hA, hB⟩
    cases u with
    | nil =>
      refine .inr ⟨ys, z, zs, rfl, .inr ⟨hz, hA⟩, ?_⟩
      rw [e]; exact hB
    | cons d u =>
      rw [List.cons_append] at e
      injection e with e1 e2
      obtain ⟨z1, z2, rfl, rfl, rfl⟩ := List.map_eq_append_iff.1 e2
      subst e1
      cases z2 with
      | nil => exact .inl ⟨⟨ys, z, z1, by simp, hz, hA⟩, hB⟩
      | cons a z2 => exact .inr ⟨ys ++ z :: z1, a, z2, by simp, .inl ⟨ys, z, z1, rfl, hz, hA⟩, hB⟩
  · rintro (⟨⟨ys, z, zs, rfl, hz, hA⟩, hB⟩ | ⟨ys, z, zs, rfl, ⟨a, y, b, rfl, hy, hA⟩ | ⟨hz, hA⟩, hB⟩)
    · exact ⟨ys, z, zs, rfl, hz, _, [], by simp, hA, hB⟩
    · exact ⟨a, y, b ++ z :: zs, by simp, hy, _, _, by simp, hA, hB⟩
    · exact ⟨ys, z, zs, rfl, hz, [], _, rfl, hA, hB⟩
theorem ends_plus_of {A : Lng} {p : Whos} (h : PlusL A p) : ∀ (ys : Fl) (z : Dv × Bool) (zs : Fl), p = z.1 :: zs.map Prod.fst → z.2 = true → ∃ a b c, ys ++ z :: zs = a ++ b :: c ∧ (b.2 = true ∨ Ends (PlusL A) a) ∧ A (b.1 :: c.map Prod.fst) := by
  induction h with
  | one p h =>
    intro ys z zs e hz
    exact ⟨ys, z, zs, rfl, .inl hz, e ▸ h⟩
  | more u v hu hv ih =>
    intro ys z zs e hz
    cases u with
    | nil => exact ⟨ys, z, zs, rfl, .inl hz, e ▸ hv⟩
    | cons d u =>
      rw [List.cons_append] at e
      injection e with e1 e2
      obtain ⟨z1, z2, rfl, rfl, rfl⟩ := List.map_eq_append_iff.1 e2.symm
      subst e1
      cases z2 with
      | nil => rw [List.append_nil]; exact ih ys z z1 rfl hz
      | cons a z2 => exact ⟨ys ++ z :: z1, a, z2, by simp, .inr ⟨ys, z, z1, rfl, hz, hu⟩, hv⟩
theorem ends_plus (A : Lng) (xs : Fl) : Ends (PlusL A) xs ↔ ∃ ys z zs, xs = ys ++ z :: zs ∧ (z.2 = true ∨ Ends (PlusL A) ys) ∧ A (z.1 :: zs.map Prod.fst) := by
  constructor
  · rintro ⟨ys, z, zs, rfl, hz, h⟩
    exact ends_plus_of h ys z zs rfl hz
  · rintro ⟨ys, z, zs, rfl, hz | ⟨a, y, b, rfl, hy, hu⟩, h⟩
    · exact ⟨ys, z, zs, rfl, hz, .one _ h⟩
    · exact ⟨a, y, b ++ z :: zs, by simp, hy, by
        have := PlusL.more _ _ hu h
        simpa using this⟩
theorem ends_seq (rs : List Rx) (he : ∀ k ∈ rs, ((Sp.of k).em = true ↔ k.L []) ∧ ∀ xs, (runF (Sp.of k) xs).en = true ↔ Ends k.L xs) : ∀ (xs : Fl) (e : Bool), (rowK (rs.map Sp.of) xs).foldl (fun e k => k.en || e && k.em) e = true ↔ (e = true ∧ seqL (rs.map Rx.L) []) ∨ Ends (seqL (rs.map Rx.L)) xs := by
  induction rs with
  | nil =>
    intro xs e
    show e = true ↔ _
    constructor
    · exact fun h => .inl ⟨h, rfl⟩
    · rintro (h | ⟨ys, z, zs, _, _, h⟩)
      · exact h.1
      · cases h
  | cons k t ih =>
    intro xs e
    obtain ⟨k1, k2⟩ := he k (by simp)
    show (rowK (t.map Sp.of) (hF (Sp.of k) xs)).foldl (fun e k => k.en || e && k.em) ((runF (Sp.of k) xs).en || e && (runF (Sp.of k) xs).em) = true ↔ (e = true ∧ concL k.L (seqL (t.map Rx.L)) []) ∨ Ends (concL k.L (seqL (t.map Rx.L))) xs
    rw [ih (fun k hk => he k (by simp [hk])), ends_h, ends_conc, (runF_op (Sp.of k) xs).2.2]
    have hc : concL k.L (seqL (t.map Rx.L)) [] ↔ k.L [] ∧ seqL (t.map Rx.L) [] := by
      constructor
      · rintro ⟨u, v, h, h1, h2⟩
        obtain ⟨rfl, rfl⟩ := List.append_eq_nil_iff.1 h.symm
        exact ⟨h1, h2⟩
      · rintro ⟨h1, h2⟩
        exact ⟨[], [], rfl, h1, h2⟩
    rw [hc]
    simp only [Bool.or_eq_true, Bool.and_eq_true, k1, k2]
    constructor
    · rintro (⟨h1 | h1, h2⟩ | h)
      · exact .inr (.inl ⟨h1, h2⟩)
      · exact .inl ⟨h1.1, h1.2, h2⟩
      · exact .inr (.inr h)
    · rintro (⟨h1, h2, h3⟩ | ⟨h1, h2⟩ | h)
      · exact .inl ⟨.inr ⟨h1, h2⟩, h3⟩
      · exact .inl ⟨.inl h1, h2⟩
      · exact .inr h
theorem snoc_cases (xs : Fl) : xs = [] ∨ ∃ ys x, xs = ys ++ [x] := by
  rcases List.eq_nil_or_concat xs with h | ⟨ys, x, h⟩
  · exact .inl h
  · exact .inr ⟨ys, x, by simpa using h⟩
theorem en_iff (r : Rx) : Rx.all nodeB r = true → ∀ xs, (runF (Sp.of r) xs).en = true ↔ Ends r.L xs := by
  induction r using Rx.ind with
  | h r ih =>
    intro ha
    obtain ⟨h1, h2⟩ := (Rx.all_iff _ _).1 ha
    have ho : (Sp.of r).op = r.op := by rw [Sp.of_eq]; rfl
    have hn : (Sp.of r).name = r.name := by rw [Sp.of_eq]; rfl
    have hk : (Sp.of r).kids = r.kids.map Sp.of := by rw [Sp.of_eq]; rfl
    have hi := fun xs => (Inv.of r).run xs
    have hop := fun xs => (runF_op (Sp.of r) xs).1.trans ho
    have hany : ∀ xs, ((r.kids.map Sp.of).map fun k => runF k xs).any Sp.en = true ↔ Ends (altL (r.kids.map Rx.L)) xs := by
      intro xs
      rw [List.any_eq_true, ends_alt]
      constructor
      · rintro ⟨s, hs, he⟩
        obtain ⟨s', hs', rfl⟩ := List.mem_map.1 hs
        obtain ⟨k, hk, rfl⟩ := List.mem_map.1 hs'
        exact ⟨_, List.mem_map_of_mem hk, (ih k hk (h2 k hk) xs).1 he⟩
      · rintro ⟨A, hA, he⟩
        obtain ⟨k, hk, rfl⟩ := List.mem_map.1 hA
        exact ⟨_, List.mem_map_of_mem (List.mem_map_of_mem hk), (ih k hk (h2 k hk) xs).2 he⟩
    by_cases h4 : r.op = 4
    · intro xs
      rw [(hi xs).1 ((hop xs).trans h4), runF_seq _ (ho.trans h4), hk, Rx.L_eq, if_pos h4]
      unfold endsR
      rw [ends_seq r.kids (fun k hk => ⟨em_iff k (h2 k hk), ih k hk (h2 k hk)⟩)]
      simp
    by_cases h58 : r.op = 5 ∨ r.op = 8
    · intro xs
      rw [(hi xs).2 (by rw [hop xs]; omega), runF_alt _ (by rw [ho]; exact h58), hk, hany xs, Rx.L_eq, if_neg h4]
      rcases h58 with h5 | h8
      · rw [if_pos h5]
      · rw [if_neg (by omega), if_neg (by omega), if_neg (by omega), if_pos h8]
        exact Ends.congr (fun d ps => by simp) xs
    by_cases h67 : r.op = 6 ∨ r.op = 7
    · have main : ∀ n (xs : Fl), xs.length ≤ n → ((runF (Sp.of r) xs).en = true ↔ Ends (PlusL (altL (r.kids.map Rx.L))) xs) := by
        intro n
        induction n with
        | zero =>
          intro xs hx
          obtain rfl : xs = [] := List.length_eq_zero_iff.1 (by omega)
          rw [runF_nil, of_en]
          exact ⟨fun h => absurd h (by decide), fun h => (Ends.not_nil h).elim⟩
        | succ n IH =>
          intro xs hx
          rw [(hi xs).2 (by rw [hop xs]; omega), runF_plus _ (by rw [ho]; exact h67), hk, hany, ends_g, ends_plus]
          constructor
          · rintro ⟨ys, z, zs, rfl, h, h'⟩
            rw [Bool.or_eq_true, IH ys (by simp at hx; omega)] at h
            exact ⟨ys, z, zs, rfl, h, h'⟩
          · rintro ⟨ys, z, zs, rfl, h, h'⟩
            rw [← IH ys (by simp at hx; omega), ← Bool.or_eq_true] at h
            exact ⟨ys, z, zs, rfl, h, h'⟩
      intro xs
      rw [main xs.length xs (Nat.le_refl _), Rx.L_eq, if_neg h4, if_neg (by omega)]
      rcases h67 with h6 | h7
      · rw [if_pos h6]
        exact Ends.congr (fun d ps => by simp) xs
      · rw [if_neg (by omega), if_pos h7]
    · intro xs
      rw [Rx.L_eq, if_neg h4, if_neg (by omega), if_neg (by omega), if_neg (by omega), if_neg (by omega)]
      rcases snoc_cases xs with rfl | ⟨ys, x, rfl⟩
      · rw [runF_nil, of_en]
        exact ⟨fun h => absurd h (by decide), fun h => (Ends.not_nil h).elim⟩
      · rw [runF_app, runF_cons, runF_nil, Sp.take_eq, hop ys, if_neg h4, if_neg (by omega), (runF_op (Sp.of r) ys).2.1, hn]
        show (x.2 && fitD x.1 r.op r.name) = true ↔ _
        rw [Bool.and_eq_true]
        constructor
        · rintro ⟨a, b⟩
          exact ⟨ys, x, [], rfl, a, x.1, rfl, b⟩
        · rintro ⟨a, z, zs, e, hz, d, e2, hd⟩
          injection e2 with e3 e4
          obtain rfl : zs = [] := List.map_eq_nil_iff.1 e4
          obtain ⟨_, e5⟩ := List.append_inj' e rfl
          injection e5 with e6 _
          subst e6 e3
          exact ⟨hz, hd⟩
/-- What Match tells is what the expression means. -/
theorem matchB_iff {r : Rx} (h : Rx.all nodeB r = true) (ps : Whos) : matchB r ps = true ↔ r.L ps := by
  unfold matchB
  cases ps with
  | nil => rw [if_pos rfl]; exact em_iff r h
  | cons a t =>
    rw [if_neg (by simp)]
    have e : runS (Sp.of r) (a :: t) = runF (Sp.of r) ((a, true) :: t.map fun d => (d, false)) := by
      rw [runF_cons]
      show t.foldl _ _ = _
      unfold runF
      rw [List.foldl_map]
      rfl
    rw [e, en_iff r h]
    constructor
    · rintro ⟨ys, z, zs, e, hz, hL⟩
      cases ys with
      | nil =>
        injection e with e1 e2
        subst e1 e2
        simpa [Function.comp_def] using hL
      | cons y ys =>
        rw [List.cons_append] at e
        injection e with e1 e2
        have hm : z ∈ t.map fun d => (d, false) := by rw [e2]; simp
        obtain ⟨d, _, rfl⟩ := List.mem_map.1 hm
        cases hz
    · intro hL
      exact ⟨[], (a, true), _, rfl, rfl, by simpa [Function.comp_def] using hL⟩
end Go.Proofs.YtnmmfbhmfcabhaaGreatDoor
namespace Go.Proofs.YtnmmfbhmfcabhaaGreatDoor
open Go.RowKit

theorem Rx.L_4 (nm : List UInt8) (ks : List Rx) : (Rx.mk 4 nm ks).L = seqL (ks.map Rx.L) := by rw [Rx.L, if_pos rfl]
theorem Rx.L_5 (nm : List UInt8) (ks : List Rx) : (Rx.mk 5 nm ks).L = altL (ks.map Rx.L) := by rw [Rx.L, if_neg (by omega), if_pos rfl]
theorem Rx.L_6 (nm : List UInt8) (ks : List Rx) : (Rx.mk 6 nm ks).L = fun ps => ps = [] ∨ PlusL (altL (ks.map Rx.L)) ps := by rw [Rx.L, if_neg (by omega), if_neg (by omega), if_pos rfl]
theorem Rx.L_7 (nm : List UInt8) (ks : List Rx) : (Rx.mk 7 nm ks).L = PlusL (altL (ks.map Rx.L)) := by rw [Rx.L, if_neg (by omega), if_neg (by omega), if_neg (by omega), if_pos rfl]
theorem Rx.L_8 (nm : List UInt8) (ks : List Rx) : (Rx.mk 8 nm ks).L = fun ps => ps = [] ∨ altL (ks.map Rx.L) ps := by rw [Rx.L, if_neg (by omega), if_neg (by omega), if_neg (by omega), if_neg (by omega), if_pos rfl]
theorem seqL_app (As Bs : List Lng) (ps : Whos) : seqL (As ++ Bs) ps ↔ concL (seqL As) (seqL Bs) ps := by
  induction As generalizing ps with
  | nil =>
    constructor
    · intro h; exact ⟨[], ps, rfl, rfl, h⟩
    · rintro ⟨u, v, rfl, hu, hv⟩
      rw [show u = [] from hu]
      exact hv
  | cons A t ih =>
    constructor
    · rintro ⟨u, v, rfl, hu, hv⟩
      obtain ⟨a, b, rfl, ha, hb⟩ := (ih v).1 hv
      exact ⟨u ++ a, b, by simp, ⟨u, a, rfl, hu, ha⟩, hb⟩
    · rintro ⟨u, v, rfl, ⟨a, b, rfl, ha, hb⟩, hv⟩
      exact ⟨a, b ++ v, by simp, ha, (ih _).2 ⟨b, v, rfl, hb, hv⟩⟩
theorem seqL_one (A : Lng) (ps : Whos) : seqL [A] ps ↔ A ps := by
  constructor
  · rintro ⟨u, v, rfl, hu, hv⟩
    rw [show v = [] from hv, List.append_nil]
    exact hu
  · intro h; exact ⟨ps, [], by simp, h, rfl⟩
theorem concL_congr {A B C D : Lng} (h : ∀ ps, A ps ↔ C ps) (k : ∀ ps, B ps ↔ D ps) (ps : Whos) : concL A B ps ↔ concL C D ps := by
  constructor
  · rintro ⟨u, v, rfl, hu, hv⟩; exact ⟨u, v, rfl, (h u).1 hu, (k v).1 hv⟩
  · rintro ⟨u, v, rfl, hu, hv⟩; exact ⟨u, v, rfl, (h u).2 hu, (k v).2 hv⟩
theorem PlusL.mono {A B : Lng} (h : ∀ ps, A ps → B ps) {ps : Whos} (k : PlusL A ps) : PlusL B ps := by
  induction k with
  | one ps hp => exact .one ps (h ps hp)
  | more u v _ hv ih => exact .more u v ih (h v hv)
theorem PlusL.congr {A B : Lng} (h : ∀ ps, A ps ↔ B ps) (ps : Whos) : PlusL A ps ↔ PlusL B ps := ⟨PlusL.mono fun p => (h p).1, PlusL.mono fun p => (h p).2⟩
theorem PlusL.ahead {A : Lng} {u v : Whos} (hu : A u) (h : PlusL A v) : PlusL A (u ++ v) := by
  induction h with
  | one ps hp => exact .more u ps (.one u hu) hp
  | more a b _ hb ih => rw [← List.append_assoc]; exact .more (u ++ a) b ih hb
theorem PlusL.both {A : Lng} {u v : Whos} (hu : PlusL A u) (h : PlusL A v) : PlusL A (u ++ v) := by
  induction h with
  | one ps hp => exact .more u ps hu hp
  | more a b _ hb ih => rw [← List.append_assoc]; exact .more (u ++ a) b ih hb
/-- Any number of times. -/
def starL (A : Lng) : Lng := fun ps => ps = [] ∨ PlusL A ps
theorem starL_both {A : Lng} {u v : Whos} (hu : starL A u) (hv : starL A v) : starL A (u ++ v) := by
  rcases hu with rfl | hu
  · exact hv
  rcases hv with rfl | hv
  · rw [List.append_nil]; exact Or.inr hu
  · exact Or.inr (hu.both hv)
theorem starL_congr {A B : Lng} (h : ∀ ps, A ps ↔ B ps) (ps : Whos) : starL A ps ↔ starL B ps := or_congr Iff.rfl (PlusL.congr h ps)
theorem starL_mono {A B : Lng} (h : ∀ ps, A ps → B ps) {ps : Whos} (k : starL A ps) : starL B ps := k.imp_right (PlusL.mono h)
theorem plus_front {A : Lng} (ps : Whos) : PlusL A ps ↔ concL A (starL A) ps := by
  constructor
  · intro h
    induction h with
    | one ps hp => exact ⟨ps, [], by simp, hp, Or.inl rfl⟩
    | more u v _ hv ih =>
      obtain ⟨a, b, rfl, ha, hb⟩ := ih
      refine ⟨a, b ++ v, by simp, ha, Or.inr ?_⟩
      rcases hb with rfl | hb
      · exact .one _ hv
      · exact .more b v hb hv
  · rintro ⟨u, v, rfl, hu, rfl | hv⟩
    · rw [List.append_nil]; exact .one u hu
    · exact hv.ahead hu
theorem star_either (A B : Lng) (ps : Whos) : starL (fun ps => A ps ∨ B ps) ps ↔ starL (concL (starL A) (starL B)) ps := by
  constructor
  · refine starL_mono fun p hp => ?_
    rcases hp with h | h
    · exact ⟨p, [], by simp, Or.inr (.one p h), Or.inl rfl⟩
    · exact ⟨[], p, rfl, Or.inl rfl, Or.inr (.one p h)⟩
  · have key : ∀ q, concL (starL A) (starL B) q → starL (fun ps => A ps ∨ B ps) q := by
      rintro q ⟨u, v, rfl, hu, hv⟩
      exact starL_both (starL_mono (fun _ h => Or.inl h) hu) (starL_mono (fun _ h => Or.inr h) hv)
    rintro (rfl | h)
    · exact Or.inl rfl
    · induction h with
      | one ps hp => exact key ps hp
      | more u v _ hv ih => exact starL_both ih (key v hv)

/-- Two as one, as the document has it. -/
def jd2 (op : Int) (a b : Rx) : Rx := if op = 4 ∧ (flatK op [a, b]).length = 1 then (flatK op [a, b]).headD (.mk op [] []) else .mk op [] (flatK op [a, b])
theorem flatK_two (op : Int) (a b : Rx) : flatK op [a, b] = (if a.op == op then a.kids else [a]) ++ (if b.op == op then b.kids else [b]) := by simp [flatK]
theorem seq_part (a : Rx) (ps : Whos) : seqL ((if a.op == 4 then a.kids else [a]).map Rx.L) ps ↔ a.L ps := by
  by_cases h : a.op = 4
  · rw [if_pos (by simpa using h), a.L_eq, if_pos h]
  · rw [if_neg (by simpa using h)]; exact seqL_one _ _
theorem alt_part (a : Rx) (ps : Whos) : altL ((if a.op == 5 then a.kids else [a]).map Rx.L) ps ↔ a.L ps := by
  by_cases h : a.op = 5
  · rw [if_pos (by simpa using h), a.L_eq, if_neg (by omega), if_pos h]
  · rw [if_neg (by simpa using h)]; simp [altL]
theorem jd2_seq (a b : Rx) (ps : Whos) : (jd2 4 a b).L ps ↔ concL a.L b.L ps := by
  have key : seqL ((flatK 4 [a, b]).map Rx.L) ps ↔ concL a.L b.L ps := by
    rw [flatK_two, List.map_append, seqL_app]
    exact concL_congr (seq_part a) (seq_part b) ps
  unfold jd2
  split
  · rename_i h
    obtain ⟨x, hx⟩ := List.length_eq_one_iff.1 h.2
    rw [hx] at key ⊢
    rw [← key]
    exact (seqL_one _ _).symm
  · rw [Rx.L_4]
    exact key
theorem jd2_alt (a b : Rx) (ps : Whos) : (jd2 5 a b).L ps ↔ a.L ps ∨ b.L ps := by
  unfold jd2
  rw [if_neg (by omega), Rx.L_5]
  rw [flatK_two, List.map_append]
  rw [← alt_part a, ← alt_part b]
  simp only [altL, List.mem_append]
  constructor
  · rintro ⟨A, h | h, hA⟩
    · exact Or.inl ⟨A, h, hA⟩
    · exact Or.inr ⟨A, h, hA⟩
  · rintro (⟨A, h, hA⟩ | ⟨A, h, hA⟩)
    · exact ⟨A, Or.inl h, hA⟩
    · exact ⟨A, Or.inr h, hA⟩
/-- A node with one kid. -/
def oneR (op : Int) (r : Rx) : Rx := .mk op [] [r]
theorem altL_one (A : Lng) (ps : Whos) : altL [A] ps ↔ A ps := by simp [altL]
theorem star_L (r : Rx) (ps : Whos) : (oneR 6 r).L ps ↔ starL r.L ps := by
  rw [oneR, Rx.L_6]
  exact starL_congr (altL_one r.L) ps
theorem plus_L (r : Rx) (ps : Whos) : (oneR 7 r).L ps ↔ PlusL r.L ps := by
  rw [oneR, Rx.L_7]
  exact PlusL.congr (altL_one r.L) ps
theorem opt_L (r : Rx) (ps : Whos) : (oneR 8 r).L ps ↔ ps = [] ∨ r.L ps := by
  rw [oneR, Rx.L_8]
  exact or_congr Iff.rfl (altL_one r.L ps)
/-- The three laws. -/
theorem means_plus (r : Rx) (ps : Whos) : (oneR 7 r).L ps ↔ (jd2 4 r (oneR 6 r)).L ps := by
  rw [plus_L, jd2_seq, plus_front]
  exact concL_congr (fun _ => Iff.rfl) (fun p => (star_L r p).symm) ps
theorem means_opt (r : Rx) (ps : Whos) : (oneR 8 r).L ps ↔ (jd2 5 r (.mk 4 [] [])).L ps := by
  rw [opt_L, jd2_alt, or_comm]
  refine or_congr Iff.rfl ?_
  rw [Rx.L_4]
  exact Iff.rfl
theorem means_star (r s : Rx) (ps : Whos) : (oneR 6 (jd2 5 r s)).L ps ↔ (oneR 6 (jd2 4 (oneR 6 r) (oneR 6 s))).L ps := by
  rw [star_L, star_L, starL_congr (jd2_alt r s), starL_congr (jd2_seq (oneR 6 r) (oneR 6 s)), star_either]
  exact starL_congr (concL_congr (fun p => (star_L r p).symm) (fun p => (star_L s p).symm)) ps
/-- Both may be: a path is of both or of none. -/
theorem match_alike {a b : Rx} (h : ∀ ps, a.L ps ↔ b.L ps) (ha : chkN a = 0) (hb : chkN b = 0) (ps : Whos) : matchB a ps = matchB b ps := by
  have h1 := matchB_iff (chk_zero ha).1 ps
  have h2 := matchB_iff (chk_zero hb).1 ps
  rw [Bool.eq_iff_iff, h1, h2]
  exact h ps
end Go.Proofs.YtnmmfbhmfcabhaaGreatDoor
namespace Go.Proofs.YtnmmfbhmfcabhaaGreatDoor
open Go.RowKit

/-- A part of a path. -/
def segP (ps : Whos) (i j : Nat) : Whos := (ps.drop i).take (j - i)
theorem segP_len {ps : Whos} {i j : Nat} (h : i ≤ j) (hj : j ≤ ps.length) : (segP ps i j).length = j - i := by
  unfold segP; rw [List.length_take, List.length_drop]; omega
theorem segP_app {ps : Whos} {i k j : Nat} (h : i ≤ k) (h2 : k ≤ j) : segP ps i j = segP ps i k ++ segP ps k j := by
  unfold segP
  rw [show j - i = (k - i) + (j - k) by omega, List.take_add, List.drop_drop, show i + (k - i) = k by omega]
theorem segP_split {ps : Whos} {i j : Nat} {u v : Whos} (hi : i ≤ j) (hj : j ≤ ps.length) (h : segP ps i j = u ++ v) : i + u.length ≤ j ∧ segP ps i (i + u.length) = u ∧ segP ps (i + u.length) j = v := by
  have hl := segP_len hi hj
  rw [h, List.length_append] at hl
  have hk : i + u.length ≤ j := by omega
  rw [segP_app (k := i + u.length) (by omega) hk] at h
  have := List.append_inj h (by rw [segP_len (by omega) (by omega)]; omega)
  exact ⟨hk, this.1, this.2⟩
theorem segP_nil {ps : Whos} {i j : Nat} (h : i ≤ j) (hj : j ≤ ps.length) : segP ps i j = [] ↔ i = j := by
  rw [← List.length_eq_zero_iff, segP_len h hj]; omega
theorem segP_one {ps : Whos} {i : Nat} {d : Dv} (h : ps[i]? = some d) : segP ps i (i + 1) = [d] := by
  obtain ⟨hi, rfl⟩ := List.getElem?_eq_some_iff.1 h
  unfold segP
  rw [show i + 1 - i = 1 by omega, List.drop_eq_getElem_cons hi]
  rfl
theorem segP_all (ps : Whos) : segP ps 0 ps.length = ps := by simp [segP]
/-- From which place of a path to which one a part of it is one of these. -/
def spn (A : Lng) (ps : Whos) (i j : Nat) : Prop := i ≤ j ∧ A (segP ps i j)
/-- A table tells these. -/
def TabOf (f : Nat → Nat → Bool) (A : Lng) (ps : Whos) : Prop := ∀ i j, i ≤ ps.length → j ≤ ps.length → (f i j = true ↔ spn A ps i j)
theorem spn_conc {A B : Lng} {ps : Whos} {i j : Nat} (hj : j ≤ ps.length) : spn (concL A B) ps i j ↔ ∃ k, k ≤ ps.length ∧ spn A ps i k ∧ spn B ps k j := by
  constructor
  · rintro ⟨hi, u, v, h, hu, hv⟩
    obtain ⟨h1, h2, h3⟩ := segP_split hi hj h
    exact ⟨i + u.length, by omega, ⟨by omega, by rw [h2]; exact hu⟩, ⟨h1, by rw [h3]; exact hv⟩⟩
  · rintro ⟨k, _, ⟨h1, h2⟩, h3, h4⟩
    exact ⟨by omega, _, _, segP_app h1 h3, h2, h4⟩
/-- No devices. -/
def diagF (i j : Nat) : Bool := decide (i = j)
theorem TabOf.nil (ps : Whos) : TabOf diagF (seqL []) ps := by
  intro i j hi hj
  unfold diagF spn
  rw [decide_eq_true_eq]
  constructor
  · rintro rfl; exact ⟨Nat.le_refl _, (segP_nil (Nat.le_refl _) hi).2 rfl⟩
  · rintro ⟨h1, h2⟩; exact (segP_nil h1 hj).1 h2
/-- By way of a place. -/
def chainF (n : Nat) (f g : Nat → Nat → Bool) (i j : Nat) : Bool := (List.range n).any fun k => f i k && g k j
theorem TabOf.chain {f g : Nat → Nat → Bool} {A B : Lng} {ps : Whos} (hf : TabOf f A ps) (hg : TabOf g B ps) : TabOf (chainF (ps.length + 1) f g) (concL A B) ps := by
  intro i j hi hj
  rw [spn_conc hj]
  unfold chainF
  rw [List.any_eq_true]
  constructor
  · rintro ⟨k, hk, h⟩
    rw [List.mem_range] at hk
    rw [Bool.and_eq_true] at h
    exact ⟨k, by omega, (hf i k hi (by omega)).1 h.1, (hg k j (by omega) hj).1 h.2⟩
  · rintro ⟨k, hk, h1, h2⟩
    exact ⟨k, List.mem_range.2 (by omega), by rw [(hf i k hi hk).2 h1, (hg k j hk hj).2 h2]; rfl⟩
/-- One or the other. -/
def orF (f g : Nat → Nat → Bool) (i j : Nat) : Bool := f i j || g i j
theorem TabOf.or {f g : Nat → Nat → Bool} {A B : Lng} {ps : Whos} (hf : TabOf f A ps) (hg : TabOf g B ps) : TabOf (orF f g) (fun q => A q ∨ B q) ps := by
  intro i j hi hj
  unfold orF
  rw [Bool.or_eq_true, hf i j hi hj, hg i j hi hj]
  constructor
  · rintro (⟨h1, h2⟩ | ⟨h1, h2⟩)
    · exact ⟨h1, Or.inl h2⟩
    · exact ⟨h1, Or.inr h2⟩
  · rintro ⟨h1, h2 | h2⟩
    · exact Or.inl ⟨h1, h2⟩
    · exact Or.inr ⟨h1, h2⟩
theorem TabOf.congr {f : Nat → Nat → Bool} {A B : Lng} {ps : Whos} (h : TabOf f A ps) (hab : ∀ q, A q ↔ B q) : TabOf f B ps := fun i j hi hj => (h i j hi hj).trans (and_congr Iff.rfl (hab _))
theorem TabOf.none (ps : Whos) : TabOf (fun _ _ => false) (altL []) ps := by
  intro i j _ _
  constructor
  · intro h; cases h
  · rintro ⟨_, A, hA, _⟩; simp at hA
/-- By ways over the places below one. -/
def warF (f : Nat → Nat → Bool) : Nat → Nat → Nat → Bool
  | 0 => f
  | k + 1 => fun i j => warF f k i j || warF f k i k && warF f k k j
theorem warF_col (f : Nat → Nat → Bool) (k i : Nat) : warF f (k + 1) i k = warF f k i k := by
  show (warF f k i k || warF f k i k && warF f k k k) = _
  cases warF f k i k <;> simp
theorem warF_row (f : Nat → Nat → Bool) (k j : Nat) : warF f (k + 1) k j = warF f k k j := by
  show (warF f k k j || warF f k k k && warF f k k j) = _
  cases warF f k k j <;> simp
theorem warF_trans (f : Nat → Nat → Bool) (k : Nat) : ∀ m, m < k → ∀ i j, warF f k i m = true → warF f k m j = true → warF f k i j = true := by
  induction k with
  | zero => intro m hm; omega
  | succ k ih =>
    intro m hm i j h1 h2
    have e : warF f (k + 1) i j = (warF f k i j || warF f k i k && warF f k k j) := rfl
    rw [e]
    by_cases hmk : m = k
    · subst hmk
      rw [warF_col] at h1
      rw [warF_row] at h2
      rw [h1, h2]; simp
    · have hmk' : m < k := by omega
      have e1 : warF f (k + 1) i m = (warF f k i m || warF f k i k && warF f k k m) := rfl
      have e2 : warF f (k + 1) m j = (warF f k m j || warF f k m k && warF f k k j) := rfl
      rw [e1, Bool.or_eq_true, Bool.and_eq_true] at h1
      rw [e2, Bool.or_eq_true, Bool.and_eq_true] at h2
      rw [Bool.or_eq_true, Bool.and_eq_true]
      rcases h1 with h1 | ⟨h1, h1'⟩
      · rcases h2 with h2 | ⟨h2, h2'⟩
        · exact Or.inl (ih m hmk' i j h1 h2)
        · exact Or.inr ⟨ih m hmk' i k h1 h2, h2'⟩
      · rcases h2 with h2 | ⟨h2, h2'⟩
        · exact Or.inr ⟨h1, ih m hmk' k j h1' h2⟩
        · exact Or.inr ⟨h1, h2'⟩
theorem warF_more (f : Nat → Nat → Bool) (k i j : Nat) (h : f i j = true) : warF f k i j = true := by
  induction k with
  | zero => exact h
  | succ k ih => show (warF f k i j || _) = true; rw [ih]; rfl
theorem TabOf.plus {f : Nat → Nat → Bool} {A : Lng} {ps : Whos} (hf : TabOf f A ps) : TabOf (warF f (ps.length + 1)) (PlusL A) ps := by
  have sound : ∀ k, k ≤ ps.length + 1 → ∀ i j, i ≤ ps.length → j ≤ ps.length → warF f k i j = true → spn (PlusL A) ps i j := by
    intro k
    induction k with
    | zero => intro _ i j hi hj h; obtain ⟨h1, h2⟩ := (hf i j hi hj).1 h; exact ⟨h1, .one _ h2⟩
    | succ k ih =>
      intro hk i j hi hj h
      have e : warF f (k + 1) i j = (warF f k i j || warF f k i k && warF f k k j) := rfl
      rw [e, Bool.or_eq_true, Bool.and_eq_true] at h
      rcases h with h | ⟨h1, h2⟩
      · exact ih (by omega) i j hi hj h
      · obtain ⟨a1, a2⟩ := ih (by omega) i k hi (by omega) h1
        obtain ⟨b1, b2⟩ := ih (by omega) k j (by omega) hj h2
        exact ⟨by omega, by rw [segP_app a1 b1]; exact a2.both b2⟩
  have full : ∀ q, PlusL A q → ∀ i j, i ≤ j → j ≤ ps.length → segP ps i j = q → warF f (ps.length + 1) i j = true := by
    intro q hq
    induction hq with
    | one q h => intro i j hi hj e; exact warF_more _ _ _ _ ((hf i j (by omega) hj).2 ⟨hi, by rw [e]; exact h⟩)
    | more u v _ hv ih =>
      intro i j hi hj e
      obtain ⟨h1, h2, h3⟩ := segP_split hi hj e
      refine warF_trans f _ (i + u.length) (by omega) i j (ih i _ (by omega) (by omega) h2) ?_
      exact warF_more _ _ _ _ ((hf _ j (by omega) hj).2 ⟨h1, by rw [h3]; exact hv⟩)
  intro i j hi hj
  exact ⟨sound _ (Nat.le_refl _) i j hi hj, fun ⟨h1, h2⟩ => full _ h2 i j h1 hj rfl⟩
/-- One device. -/
def leafF (op : Int) (nm : List UInt8) (ps : Whos) (i j : Nat) : Bool := decide (j = i + 1) && match ps[i]? with | some d => fitD d op nm | none => false
theorem TabOf.leaf (op : Int) (nm : List UInt8) (ps : Whos) : TabOf (leafF op nm ps) (fun q => ∃ d : Dv, q = [d] ∧ fitD d op nm = true) ps := by
  intro i j hi hj
  unfold leafF spn
  rw [Bool.and_eq_true, decide_eq_true_eq]
  constructor
  · rintro ⟨rfl, h⟩
    have hlt : i < ps.length := by omega
    rw [List.getElem?_eq_getElem hlt] at h
    exact ⟨by omega, _, segP_one (List.getElem?_eq_getElem hlt), h⟩
  · rintro ⟨h1, d, h2, h3⟩
    have hl := segP_len h1 hj
    rw [h2] at hl
    have hji : j = i + 1 := by simp at hl; omega
    subst hji
    refine ⟨rfl, ?_⟩
    have hlt : i < ps.length := by omega
    have h4 := segP_one (List.getElem?_eq_getElem hlt)
    rw [h2] at h4
    injection h4 with h4 _
    rw [List.getElem?_eq_getElem hlt]
    show fitD ps[i] op nm = true
    rw [← h4]; exact h3
end Go.Proofs.YtnmmfbhmfcabhaaGreatDoor
