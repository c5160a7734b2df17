/-
  The law's own one, path and alike.
  What the law RegexMeans says of paths, as mathematics.
  A path that Match finds is one of the expression's, and every one is found.
  Which paths are of an expression, and that the spots tell them.
  The program's Match of any expression and any path.
  An expression that came in as an argument, opened.
  The law's own run.
-/
import Derived.Test.YtnmmfbhmfcabhaaGreatDoorZTakeAnd
import Derived.Test.YtnmmfbhmfcabhaaGreatDoorZGoesAnd
import Derived.Test.YtnmmfbhmfcabhaaGreatDoorWKindAnd
import Derived.WalkKit
import Derived.ProofKit
import Derived.OpenShut
import Derived.ShutString
import Derived.Deep.Slices
import Derived.ChangeArms
import Derived.SliceStrings
import Derived.Test.YtnmmfbhmfcabhaaGreatDoorYJoinAnd
namespace Go.Proofs.YtnmmfbhmfcabhaaGreatDoor
open Go.RowKit

theorem z_fit : zR.Fit := by
  simp [Rx.Fit, Rx.all_eq, Rx.kids, Rx.name, maxLen]
theorem z_chk : chkN zR = 0 := by
  have h1 : Wo.nameB [97] = true := by kernel_rfl
  have h2 : Wo.nameB [98] = true := by kernel_rfl
  have h3 : Wo.nameB [99] = true := by kernel_rfl
  have h4 : Wo.nameB [99, 111, 114, 101] = true := by kernel_rfl
  simp [chkN, Rx.nodes_eq, Rx.deep_eq, Rx.all_eq, Rx.kids, nodeB, Rx.op, Rx.name, noneB, h1, h2, h3, h4]
theorem z_wds : zR.wds = [[97], [46], [42], [36], [99, 111, 114, 101], [40], [98], [124], [99], [41], [43]] := by
  simp [Rx.wds, tg, kwd, altW, sgn1, Rx.op, Rx.kids]
theorem z_prs : prS zR = zText := by
  unfold prS
  rw [if_pos z_chk, z_wds]
  decide
theorem z_yes : matchB zR [([97], []), ([113], [[99, 111, 114, 101]]), ([99], [])] = true := by
  simp [matchB, runS, Sp.of, Sp.take, noneS, firsts, endsR, fitB, Sp.em, Sp.en]
theorem z_no : matchB zR [([97], []), ([99], [])] = false := by
  simp [matchB, runS, Sp.of, Sp.take, noneS, firsts, endsR, fitB, Sp.em, Sp.en]

theorem z_path1 (w : World) : PathAt ((w.alloc (.cells #[.string (tx [99, 111, 114, 101])] 9)).alloc (.cells #[.string (tx [97]), .slice none 0 0, .string (tx [113]), .slice (some ⟨w.heap.size, 0, none⟩) 1 1, .string (tx [99]), .slice none 0 0] 66)) (.slice (some ⟨w.heap.size + 1, 0, none⟩) 3 3) [([97], []), ([113], [[99, 111, 114, 101]]), ([99], [])] := by
  refine ⟨_, 3, rfl, Or.inr ⟨w.heap.size + 1, 0, rfl, by simp, fun i p hp => ?_⟩⟩
  have hb := new_1 w (.cells #[.string (tx [99, 111, 114, 101])] 9) (.cells #[.string (tx [97]), .slice none 0 0, .string (tx [113]), .slice (some ⟨w.heap.size, 0, none⟩) 1 1, .string (tx [99]), .slice none 0 0] 66)
  match i, hp with
  | 0, hp =>
    simp at hp
    subst hp
    exact ⟨by simp, none, 0, 0, by rw [cell_at hb]; rfl, by rw [cell_at hb]; rfl, Txs.nil _ _ _⟩
  | 1, hp =>
    simp at hp
    subst hp
    refine ⟨by simp [maxLen], some ⟨w.heap.size, 0, none⟩, 1, 1, by rw [cell_at hb]; rfl, by rw [cell_at hb]; rfl, _, 1, rfl, Or.inr ⟨w.heap.size, 0, rfl, by simp; omega, fun j hj => ?_⟩⟩
    have hj0 : j = 0 := by simp at hj; omega
    subst hj0
    rw [cell_at (new_old _ _ (new_0 w _))]
    rfl
  | 2, hp =>
    simp at hp
    subst hp
    exact ⟨by simp, none, 0, 0, by rw [cell_at hb]; rfl, by rw [cell_at hb]; rfl, Txs.nil _ _ _⟩
theorem z_path2 (w : World) : PathAt (w.alloc (.cells #[.string (tx [97]), .slice none 0 0, .string (tx [99]), .slice none 0 0] 66)) (.slice (some ⟨w.heap.size, 0, none⟩) 2 2) [([97], []), ([99], [])] := by
  refine ⟨_, 2, rfl, Or.inr ⟨w.heap.size, 0, rfl, by simp, fun i p hp => ?_⟩⟩
  have hb := new_0 w (.cells #[.string (tx [97]), .slice none 0 0, .string (tx [99]), .slice none 0 0] 66)
  match i, hp with
  | 0, hp =>
    simp at hp
    subst hp
    exact ⟨by simp, none, 0, 0, by rw [cell_at hb]; rfl, by rw [cell_at hb]; rfl, Txs.nil _ _ _⟩
  | 1, hp =>
    simp at hp
    subst hp
    exact ⟨by simp, none, 0, 0, by rw [cell_at hb]; rfl, by rw [cell_at hb]; rfl, Txs.nil _ _ _⟩

set_option maxRecDepth 20000 in
set_option maxHeartbeats 4000000 in
theorem awake9 : Awake9 := by
  intro w
  have HP := hid (fun (W : World) => (by
    have := gParse_ok (w := W) (s := zText) (ls := Wo.read zText) (A := []) (P := zP) (by decide) rfl z_read.1 (by have h := congrArg List.length z_read.2.1; rw [List.length_map] at h; rw [h]; decide) (by rw [z_read.2.2]; decide) (by rw [z_read.2.1]; exact z_goes) (by simp) (by simp [nodesL, Rx.nodes_eq, Rx.kids]) (by rw [z_whole]; exact z_fit) (by rw [z_whole]; exact z_chk)
    rw [z_whole] at this
    exact this : Calls Tryz.prog 15 #[.string (tx zText)] W fun e w' => ∃ u n c, e = .returned (.tuple #[.agg #[.int .i64 zR.op, .string (tx zR.name), .slice u n c], .int .i64 0, .int .i64 0, .int .i64 0]) ∧ Hid (RxS w' (.slice u n c) zR.kids) ∧ Below W.heap.size W w'))
  have HPR := hid (fun (W : World) (v : Value) (hS : RxS W v zR.kids) => (by
    have := gPrint_any hS z_fit
    rw [z_prs, z_chk] at this
    exact this : Calls Tryz.prog 8 #[.agg #[.int .i64 zR.op, .string (tx zR.name), v]] W fun e w' => e = .returned (.tuple #[.string (tx zText), .int .i64 ((0 : Nat) : Int)]) ∧ Below W.heap.size W w'))
  have HM1 := hid (fun (W : World) (v vp : Value) (hS : RxS W v zR.kids) (hp : PathAt W vp [([97], []), ([113], [[99, 111, 114, 101]]), ([99], [])]) => (by
    have := gMatch_ok hS z_fit z_chk hp (by decide) (by simp)
    rw [z_yes] at this
    exact this : Calls Tryz.prog 19 #[.agg #[.int .i64 zR.op, .string (tx zR.name), v], vp] W fun e w' => e = .returned (.tuple #[.bool true, .int .i64 0]) ∧ Below W.heap.size W w'))
  have HM2 := hid (fun (W : World) (v vp : Value) (hS : RxS W v zR.kids) (hp : PathAt W vp [([97], []), ([99], [])]) => (by
    have := gMatch_ok hS z_fit z_chk hp (by decide) (by simp)
    rw [z_no] at this
    exact this : Calls Tryz.prog 19 #[.agg #[.int .i64 zR.op, .string (tx zR.name), v], vp] W fun e w' => e = .returned (.tuple #[.bool false, .int .i64 0]) ∧ Below W.heap.size W w'))
  rw [show zR.op = 4 from rfl, show zR.name = [] from rfl] at HP HPR HM1 HM2
  go_enter Tryz.func14, Tryz.ntmps14
  go_wp2_with fail
  refine (HP.out _).mono ?_
  rintro en w1 ⟨u, n, c, rfl, X1, hb1⟩
  obtain ⟨uo, uc, hun, -⟩ := X1.out.at
  cases hun
  rw [show zR.kids.length = 4 from rfl] at *
  have HX := hid (fun (W : World) (hb : Below w1.heap.size w1 W) => X1.out.on hb)
  clear X1
  have HB1 := hid hb1
  clear hb1
  go_wp2_with fail
  refine (HPR.out _ _ (HX.out _ ((Below.refl _ _).alloc (Nat.le_refl _) _))).mono ?_
  rintro en w2 ⟨rfl, hb2⟩
  have hs2 : w1.heap.size + 1 ≤ w2.heap.size := by have := hb2.size; simpa using this
  have hbx := (hb2.block w1.heap.size (by simp)).trans (new_0 _ _)
  have x0 : w2.cell? ⟨w1.heap.size, 0, none⟩ = some (.int .i64 4) := by rw [cell_at hbx]; rfl
  have x1 : w2.cell? ⟨w1.heap.size, 1, none⟩ = some (.string (tx [])) := by rw [cell_at hbx]; rfl
  have x2 : w2.cell? ⟨w1.heap.size, 2, none⟩ = some (.slice u 4 c) := by rw [cell_at hbx]; rfl
  have B2 := hid (show Below w1.heap.size w1 w2 from ((Below.refl _ _).alloc (Nat.le_refl _) _).trans (hb2.mono (by simp)))
  have BX := hid hbx
  clear hb2 hbx
  have HQ1 := hid (fun (o1 o2 : Obj) => (B2.out.alloc (by omega) o1).alloc (by simp; omega) o2)
  go_wp2_with fail
  refine (HM1.out _ _ _ (HX.out _ (HQ1.out _ _)) (z_path1 w2)).mono ?_
  rintro en w3 ⟨rfl, hb3⟩
  have B3 := hid (show Below w1.heap.size w1 w3 from (HQ1.out (.cells #[.string (tx [99, 111, 114, 101])] 9) (.cells #[.string (tx [97]), .slice none 0 0, .string (tx [113]), .slice (some ⟨w2.heap.size, 0, none⟩) 1 1, .string (tx [99]), .slice none 0 0] 66)).trans (hb3.mono (by simp; omega)))
  have hs3 : w2.heap.size + 2 ≤ w3.heap.size := by have := hb3.size; simpa using this
  have hbx := (hb3.block w1.heap.size (by simp; omega)).trans ((Below.heap_alloc _ _ _ (by simp; omega)).trans ((Below.heap_alloc _ _ _ (by omega)).trans BX.out))
  clear x0 x1 x2
  have x0 : w3.cell? ⟨w1.heap.size, 0, none⟩ = some (.int .i64 4) := by rw [cell_at hbx]; rfl
  have x1 : w3.cell? ⟨w1.heap.size, 1, none⟩ = some (.string (tx [])) := by rw [cell_at hbx]; rfl
  have x2 : w3.cell? ⟨w1.heap.size, 2, none⟩ = some (.slice u 4 c) := by rw [cell_at hbx]; rfl
  clear hb3 hbx
  have HQ2 := hid (fun (o1 : Obj) => B3.out.alloc (by omega) o1)
  go_wp2_with fail
  refine (HM2.out _ _ _ (HX.out _ (HQ2.out _)) (z_path2 w3)).mono ?_
  rintro en w4 ⟨rfl, hb4⟩
  have B4 := hid (show Below w.heap.size w w4 from below_2x HB1.out ((HQ2.out (.cells #[.string (tx [97]), .slice none 0 0, .string (tx [99]), .slice none 0 0] 66)).trans (hb4.mono (by simp; omega))))
  clear hb4
  go_wp2
  try (go_quiet (fail); go_wp2)
  go_ret
  exact ⟨rfl, B4.out⟩
end Go.Proofs.YtnmmfbhmfcabhaaGreatDoor
namespace Go.Proofs.YtnmmfbhmfcabhaaGreatDoor
open Go.ChangeShapes Go.WideShapes Go.ChangeAt Go.RowKit

theorem structOfX {P : Program} {t : TypeId} {l : List (TypeId × Nat)} (h : (match P.underlying t with | some (.struct fs) => decide (fs.toList.map (fun f => (f.type, f.offset)) = l) | _ => false) = true) : ∃ fs, P.underlying t = some (.struct fs) ∧ fs.toList.map (fun f => (f.type, f.offset)) = l := by
  split at h
  · rename_i fs e
    exact ⟨fs, e, of_decide_eq_true h⟩
  · cases h
theorem fieldOfX {fs : Array Field} {l : List (TypeId × Nat)} (h : fs.toList.map (fun f => (f.type, f.offset)) = l) {i : Nat} {ty : TypeId} {off : Nat} (hi : l[i]? = some (ty, off)) : ∃ f, fs[i]? = some f ∧ f.type = ty ∧ f.offset = off := by
  rw [← h, List.getElem?_map, Option.map_eq_some_iff] at hi
  obtain ⟨f, hf, e⟩ := hi
  simp only [Prod.mk.injEq] at e
  exact ⟨f, by simpa using hf, e.1, e.2⟩
theorem addrAddX (g o i : Nat) : (⟨g, o, none⟩ : Addr).add i = ⟨g, o + i, none⟩ := by
  unfold Addr.add; split <;> simp_all
theorem addrOfX {w : World} {a : Addr} {v : Value} (h : w.cell? (a.add 0) = some v) : (∃ g o, a = ⟨g, o, none⟩) ∧ a.block < w.heap.size := by
  have e : a.add 0 = a := by unfold Addr.add; simp
  rw [e] at h
  obtain ⟨g, o, sp⟩ := a
  have hlt : g < w.heap.size := World.block_lt_of_cell? w _ h
  refine ⟨?_, hlt⟩
  cases sp with
  | none => exact ⟨g, o, rfl⟩
  | some s =>
    exfalso
    unfold World.cell? at h
    simp only [Option.isSome_some, if_true] at h
    split at h <;> cases h
theorem Rx.Fit.mk {r : Rx} (h : r.name.length ≤ maxLen) (hk : ∀ k ∈ r.kids, k.Fit) : r.Fit := (Rx.all_iff _ _).2 ⟨decide_eq_true h, hk⟩

section
variable {H : Type} {enc : TypeId × Value → H} {w : World} {base : Nat} {spare : Nat → Bool} {held : Bool}

set_option maxRecDepth 100000 in
theorem open_regex (fuel : Nat) : ∀ {cs : List Value} {x : DataW H × List MemPlace}, DataW.trod enc Tryz.prog w base spare held fuel 25 cs = some x → ∃ (r : Rx) (v : Value), cs = [.int .i64 r.op, .string (tx r.name), v] ∧ RxS w v r.kids ∧ r.Fit := by
  induction fuel using Nat.strongRecOn with
  | ind fuel ih =>
    intro cs x h
    obtain ⟨fs, hfs, hl⟩ := structOfX (P := Tryz.prog) (t := 25) (l := [(22, 0), (9, 1), (23, 2)]) (by kernel_rfl)
    obtain ⟨xs, n, hn, _, hlen, hxl, hf⟩ := DataW.trod_struct hfs h
    have hc : Tryz.prog.cellsOf 25 = 3 := by kernel_rfl
    rw [hc] at hlen
    have hsz : fs.size = 3 := by have := congrArg List.length hl; simpa using this
    match cs, hlen with
    | [c0, c1, c2], _ =>
      obtain ⟨f0, e0, t0, o0⟩ := fieldOfX hl (i := 0) rfl
      obtain ⟨f1, e1, t1, o1⟩ := fieldOfX hl (i := 1) rfl
      obtain ⟨f2, e2, t2, o2⟩ := fieldOfX hl (i := 2) rfl
      have g0 := hf 0 f0 e0
      have g1 := hf 1 f1 e1
      have g2 := hf 2 f2 e2
      rw [t0, o0, show Tryz.prog.cellsOf 22 = 1 by kernel_rfl, List.getElem?_eq_getElem (show 0 < xs.length by omega)] at g0
      rw [t1, o1, show Tryz.prog.cellsOf 9 = 1 by kernel_rfl, List.getElem?_eq_getElem (show 1 < xs.length by omega)] at g1
      rw [t2, o2, show Tryz.prog.cellsOf 23 = 1 by kernel_rfl, List.getElem?_eq_getElem (show 2 < xs.length by omega)] at g2
      obtain ⟨p, hp, _, _⟩ := DataW.trod_int (k := .i64) (by kernel_rfl) g0
      obtain ⟨m, hm1, _, hms⟩ := DataW.trod_string Tryz.underlying9 g1
      simp at hp hm1
      subst hp hm1
      have g2' : DataW.trod enc Tryz.prog w base spare held n 23 [c2] = some xs[2] := by simpa using g2
      have hmn : m.data.toList.length ≤ maxLen := by rw [list_size]; exact hms
      rcases DataW.trod_slice Tryz.underlying23 g2' with ⟨hcs, _⟩ | ⟨a, len, cap, elems, rest, n2, hn2, hcs, _, _, hlc, _, hel, helem, _, _⟩
      · simp only [List.cons.injEq, and_true] at hcs
        refine ⟨.mk p m.data.toList [], c2, rfl, by rw [hcs]; exact .nil _ _, Rx.Fit.mk hmn fun k hk => absurd hk (by simp [Rx.kids])⟩
      · simp only [List.cons.injEq, and_true] at hcs
        subst hcs
        rw [hc] at helem
        have each : ∀ i, i < len → ∃ q : Rx × Value, w.cell? (a.add (i * 3)) = some (.int .i64 q.1.op) ∧ w.cell? ((a.add (i * 3)).add 1) = some (.string (tx q.1.name)) ∧ w.cell? ((a.add (i * 3)).add 2) = some q.2 ∧ RxS w q.2 q.1.kids ∧ q.1.Fit := by
          intro i hi
          have h1 := helem i hi
          rw [List.getElem?_eq_getElem (show i < elems.length by omega), Option.bind_eq_some_iff] at h1
          obtain ⟨cs', h2, h3⟩ := h1
          obtain ⟨_, _, hcell⟩ := World.cells?_some h2
          obtain ⟨r, v, rfl, h4, h5⟩ := ih n2 (by omega) h3
          have c0 := hcell 0 (by omega)
          have c1 := hcell 1 (by omega)
          have c2 := hcell 2 (by omega)
          have e0 : (a.add (i * 3)).add 0 = a.add (i * 3) := by unfold Addr.add; simp
          rw [e0] at c0
          exact ⟨(r, v), c0, c1, c2, h4, h5⟩
        by_cases h0 : len = 0
        · subst h0
          exact ⟨.mk p m.data.toList [], _, rfl, .nil _ _, Rx.Fit.mk hmn fun k hk => absurd hk (by simp [Rx.kids])⟩
        have : Inhabited (Rx × Value) := ⟨(.mk 0 [] [], .bool false)⟩
        obtain ⟨q, hq⟩ := Go.Deep.choose_lt each
        obtain ⟨⟨g, o, rfl⟩, hb⟩ := addrOfX (v := .int .i64 (q 0).1.op) (by have := (hq 0 (by omega)).1; rw [Nat.zero_mul] at this; exact this)
        have hkl : ((List.range len).map fun i => (q i).1).length = len := by simp
        refine ⟨.mk p m.data.toList ((List.range len).map fun i => (q i).1), _, rfl, ?_, Rx.Fit.mk hmn fun k hk => ?_⟩
        · show RxS w (.slice (some ⟨g, o, none⟩) len cap) ((List.range len).map fun i => (q i).1)
          have hs := RxS.some (w := w) g o cap ((List.range len).map fun i => (q i).1) ((List.range len).map fun i => (q i).2) hb (by simp) (fun i k v hk hv => ?_) (fun i k v hk hv => ?_)
          · rw [hkl] at hs; exact hs
          · rw [List.getElem?_map, Option.map_eq_some_iff] at hk hv
            obtain ⟨i', hi', rfl⟩ := hk
            obtain ⟨i'', hi'', rfl⟩ := hv
            rw [hi'] at hi''
            cases hi''
            obtain ⟨hi, rfl⟩ := List.getElem?_eq_some_iff.1 hi'
            simp only [List.length_range] at hi
            simp only [List.getElem_range]
            obtain ⟨c0, c1, c2, _, _⟩ := hq i hi
            rw [addrAddX] at c0 c1 c2
            rw [addrAddX] at c1 c2
            exact ⟨c0, c1, c2⟩
          · rw [List.getElem?_map, Option.map_eq_some_iff] at hk hv
            obtain ⟨i', hi', rfl⟩ := hk
            obtain ⟨i'', hi'', rfl⟩ := hv
            rw [hi'] at hi''
            cases hi''
            obtain ⟨hi, rfl⟩ := List.getElem?_eq_some_iff.1 hi'
            simp only [List.length_range] at hi
            simp only [List.getElem_range]
            exact (hq i hi).2.2.2.1
        · obtain ⟨i, hi, rfl⟩ := List.mem_map.1 (show k ∈ (List.range len).map fun i => (q i).1 from hk)
          exact (hq i (List.mem_range.1 hi)).2.2.2.2
end
end Go.Proofs.YtnmmfbhmfcabhaaGreatDoor
namespace Go.Proofs.YtnmmfbhmfcabhaaGreatDoor
open Go.RowKit

set_option maxRecDepth 20000 in
set_option maxHeartbeats 2000000 in
theorem gMatch_any {w : World} {v vp : Value} {r : Rx} {ps : Whos} (hS : RxS w v r.kids) (hF : r.Fit) (hP : PathAt w vp ps) (hn : ps.length ≤ 1000000) :
    Calls Tryz.prog 19 #[.agg #[.int .i64 r.op, .string (tx r.name), v], vp] w fun e w' => e = .returned (.tuple #[.bool (if chkN r = 0 then matchB r ps else false), .int .i64 (chkN r)]) ∧ Below w.heap.size w w' := by
  by_cases hc : chkN r = 0
  · by_cases hne : ps = []
    · subst hne
      have hn1 := (chk_zero hc).2
      have HMB := hid (show (if chkN r = 0 then matchB r [] else false) = (Sp.of r).em by rw [if_pos hc]; rfl)
      rw [HMB.out, hc]
      have HCK := hid (fun (W : World) (hb : Below w.heap.size w W) => (by
        have := gCheck_any (r := r) (hS.on hb) hF
        rw [hc] at this
        exact this : Calls Tryz.prog 12 #[.agg #[.int .i64 r.op, .string (tx r.name), v]] W fun e w' => e = .returned (.int .i64 ((0 : Nat) : Int)) ∧ Below W.heap.size W w'))
      have HSO := hid (fun (W : World) (hb : Below w.heap.size w W) => spotOf_any r (hS.on hb) (by omega) W (Below.refl _ _))
      obtain ⟨ao, cap, rfl, -⟩ := hS.at
      obtain ⟨po, pcap, rfl, -⟩ := hP
      have HB0 := hid (boxed.start w r (.slice ao r.kids.length cap))
      obtain ⟨kn, hkn⟩ : ∃ kn, kn = r.kids.length := ⟨_, rfl⟩
      rw [← hkn] at HCK HSO HB0 ⊢
      clear hS hF hc hn1 hkn HMB hn
      go_enter Tryz.func19, Tryz.ntmps19
      go_wp2_with fail
      refine (HCK.out _ HB0.out.low).mono ?_
      rintro en w1 ⟨rfl, hb1⟩
      have B1 := hid (HB0.out.on hb1)
      obtain ⟨c0, c1, c2⟩ := B1.out.cells
      clear hb1
      go_wp2_with fail
      refine (HSO.out _ B1.out.low).mono ?_
      rintro en w2 ⟨u, sn, sc, bs, rfl, -, -, BJ⟩
      have B2 := hid (show Below w.heap.size w w2 from below_2x B1.out.low BJ.out)
      have hsz := B2.out.size
      clear c0 c1 c2
      go_wp2_with fail
      try (go_quiet (fail); go_wp2_with fail)
      first
        | exact bodyPost_ret (v := .tuple #[.bool (Sp.of r).em, .int .i64 0]) (by simp [results, Tryz.results19, go_sem]) rfl ⟨rfl, B2.out.alloc hsz _⟩
        | exact bodyPost_ret (v := .tuple #[.bool (Sp.of r).em, .int .i64 0]) (by simp [results, Tryz.results19, go_sem]) rfl ⟨rfl, below_drewN (B2.out.alloc hsz _)⟩
    · refine (gMatch_ok hS hF hc hP hn hne).mono ?_
      rintro e w' ⟨rfl, hb⟩
      exact ⟨by rw [if_pos hc, hc]; rfl, hb⟩
  · have HMB := hid (show (if chkN r = 0 then matchB r ps else false) = false by rw [if_neg hc])
    rw [HMB.out]
    have HCK := hid (fun (W : World) (hb : Below w.heap.size w W) => gCheck_any (r := r) (hS.on hb) hF)
    obtain ⟨ao, cap, rfl, -⟩ := hS.at
    obtain ⟨po, pcap, rfl, -⟩ := hP
    have HB0 := hid (boxed.start w r (.slice ao r.kids.length cap))
    obtain ⟨kn, hkn⟩ : ∃ kn, kn = r.kids.length := ⟨_, rfl⟩
    obtain ⟨c, hcc⟩ : ∃ c, c = chkN r := ⟨_, rfl⟩
    rw [← hkn] at HCK HB0 ⊢
    rw [← hcc] at HCK hc ⊢
    have hcI : ((c : Int) == 0) = false := by rw [beq_eq_false_iff_ne]; omega
    clear hS hF hc hkn HMB hcc hn
    go_enter Tryz.func19, Tryz.ntmps19
    go_wp2_with fail
    refine (HCK.out _ HB0.out.low).mono ?_
    rintro en w1 ⟨rfl, hb1⟩
    have B1 := hid (HB0.out.on hb1)
    clear hb1
    go_wp2
    refine bodyPost_ret (v := .tuple #[.bool false, .int .i64 c]) (by simp [results, Tryz.results19, go_sem]) rfl ⟨rfl, B1.out.low⟩
end Go.Proofs.YtnmmfbhmfcabhaaGreatDoor
namespace Go.Proofs.YtnmmfbhmfcabhaaGreatDoor
open Go.RowKit

/-- A device of a path. -/
abbrev Dv := List UInt8 × List (List UInt8)
abbrev Lng := Whos → Prop
def fitD (d : Dv) : Int → List UInt8 → Bool := fitB d.1 d.2
/-- One path behind another. -/
def concL (A B : Lng) : Lng := fun ps => ∃ u v, ps = u ++ v ∧ A u ∧ B v
def seqL : List Lng → Lng
  | [] => fun ps => ps = []
  | A :: t => concL A (seqL t)
/-- Once or more. -/
inductive PlusL (A : Lng) : Lng where
  | one (ps : Whos) (h : A ps) : PlusL A ps
  | more (u v : Whos) (h : PlusL A u) (h2 : A v) : PlusL A (u ++ v)
def altL (ts : List Lng) : Lng := fun ps => ∃ A ∈ ts, A ps
/-- The paths of an expression. -/
def Rx.L : Rx → Lng
  | .mk o n ks => if o = 4 then seqL (ks.map Rx.L) else if o = 5 then altL (ks.map Rx.L) else if o = 6 then (fun ps => ps = [] ∨ PlusL (altL (ks.map Rx.L)) ps) else if o = 7 then PlusL (altL (ks.map Rx.L)) else if o = 8 then (fun ps => ps = [] ∨ altL (ks.map Rx.L) ps) else fun ps => ∃ d : Dv, ps = [d] ∧ fitD d o n = true
theorem Rx.L_eq (r : Rx) : r.L = if r.op = 4 then seqL (r.kids.map Rx.L) else if r.op = 5 then altL (r.kids.map Rx.L) else if r.op = 6 then (fun ps => ps = [] ∨ PlusL (altL (r.kids.map Rx.L)) ps) else if r.op = 7 then PlusL (altL (r.kids.map Rx.L)) else if r.op = 8 then (fun ps => ps = [] ∨ altL (r.kids.map Rx.L) ps) else fun ps => ∃ d : Dv, ps = [d] ∧ fitD d r.op r.name = true := by
  cases r
  rw [Rx.L]; rfl

/-- Devices, each with whether a path may begin with it. -/
abbrev Fl := List (Dv × Bool)
def runF (s : Sp) (xs : Fl) : Sp := xs.foldl (fun s x => s.take (fitD x.1) x.2) s
theorem runF_nil (s : Sp) : runF s [] = s := rfl
theorem runF_cons (s : Sp) (x : Dv × Bool) (xs : Fl) : runF s (x :: xs) = runF (s.take (fitD x.1) x.2) xs := rfl
theorem runF_app (s : Sp) (xs ys : Fl) : runF s (xs ++ ys) = runF (runF s xs) ys := by simp [runF, List.foldl_append]
theorem runF_op (s : Sp) (xs : Fl) : (runF s xs).op = s.op ∧ (runF s xs).name = s.name ∧ (runF s xs).em = s.em := by
  induction xs generalizing s with
  | nil => exact ⟨rfl, rfl, rfl⟩
  | cons x xs ih =>
    rw [runF_cons]
    obtain ⟨a, b, c⟩ := ih (s.take (fitD x.1) x.2)
    obtain ⟨a', b', c'⟩ := s.take_op (fitD x.1) x.2
    exact ⟨a.trans a', b.trans b', c.trans c'⟩
/-- A path of A ends with the last device. -/
def Ends (A : Lng) (xs : Fl) : Prop := ∃ (ys : Fl) (z : Dv × Bool) (zs : Fl), xs = ys ++ z :: zs ∧ z.2 = true ∧ A (z.1 :: zs.map Prod.fst)
theorem Ends.not_nil {A : Lng} (h : Ends A []) : False := by
  obtain ⟨ys, z, zs, h, _⟩ := h
  simp at h
theorem Ends.pre {A : Lng} {xs : Fl} (ys : Fl) (h : Ends A xs) : Ends A (ys ++ xs) := by
  obtain ⟨a, z, zs, rfl, h1, h2⟩ := h
  exact ⟨ys ++ a, z, zs, by simp, h1, h2⟩

/-- Flags of a kid behind another one. -/
def hF : Sp → Fl → Fl
  | _, [] => []
  | k, x :: xs => (x.1, k.en || x.2 && k.em) :: hF (k.take (fitD x.1) x.2) xs
theorem hF_app (k : Sp) (xs ys : Fl) : hF k (xs ++ ys) = hF k xs ++ hF (runF k xs) ys := by
  induction xs generalizing k with
  | nil => rfl
  | cons x xs ih => show _ :: hF _ (xs ++ ys) = _; rw [ih]; rfl
theorem hF_fst (k : Sp) (xs : Fl) : (hF k xs).map Prod.fst = xs.map Prod.fst := by
  induction xs generalizing k with
  | nil => rfl
  | cons x xs ih => show x.1 :: (hF _ xs).map Prod.fst = _; rw [ih]; rfl
theorem hF_len (k : Sp) (xs : Fl) : (hF k xs).length = xs.length := by
  have := congrArg List.length (hF_fst k xs)
  simpa using this
/-- Flags of the kid of a node that begins anew. -/
def gF : Sp → Fl → Fl
  | _, [] => []
  | s, x :: xs => (x.1, x.2 || s.en) :: gF (s.take (fitD x.1) x.2) xs
theorem gF_app (k : Sp) (xs ys : Fl) : gF k (xs ++ ys) = gF k xs ++ gF (runF k xs) ys := by
  induction xs generalizing k with
  | nil => rfl
  | cons x xs ih => show _ :: gF _ (xs ++ ys) = _; rw [ih]; rfl
theorem gF_fst (k : Sp) (xs : Fl) : (gF k xs).map Prod.fst = xs.map Prod.fst := by
  induction xs generalizing k with
  | nil => rfl
  | cons x xs ih => show x.1 :: (gF _ xs).map Prod.fst = _; rw [ih]; rfl
theorem gF_len (k : Sp) (xs : Fl) : (gF k xs).length = xs.length := by
  have := congrArg List.length (gF_fst k xs)
  simpa using this
theorem splitFl {xs : Fl} {n : Nat} (h : n < xs.length) : ∃ ys z zs, xs = ys ++ z :: zs ∧ ys.length = n := by
  refine ⟨xs.take n, xs[n], xs.drop (n + 1), ?_, by simp; omega⟩
  rw [← List.drop_eq_getElem_cons h, List.take_append_drop]
theorem ends_h {A : Lng} (k : Sp) (xs : Fl) : Ends A (hF k xs) ↔ ∃ ys z zs, xs = ys ++ z :: zs ∧ ((runF k ys).en || z.2 && k.em) = true ∧ A (z.1 :: zs.map Prod.fst) := by
  constructor
  · rintro ⟨Y, Z, ZS, h, hz, hA⟩
    have hl := hF_len k xs
    rw [h] at hl
    obtain ⟨ys, z, zs, rfl, hy⟩ := splitFl (xs := xs) (n := Y.length) (by rw [← hl]; simp)
    rw [hF_app] at h
    obtain ⟨h1, h2⟩ := List.append_inj h (by rw [hF_len, hy])
    injection h2 with h3 h4
    subst h3
    refine ⟨ys, z, zs, rfl, ?_, ?_⟩
    · have := hz
      simp only [(runF_op k ys).2.2] at this
      exact this
    · rw [← h4, hF_fst] at hA; exact hA
  · rintro ⟨ys, z, zs, rfl, h1, h2⟩
    refine ⟨hF k ys, (z.1, (runF k ys).en || z.2 && (runF k ys).em), hF _ zs, by rw [hF_app]; rfl, by rw [(runF_op k ys).2.2]; exact h1, by rw [hF_fst]; exact h2⟩
theorem ends_g {A : Lng} (k : Sp) (xs : Fl) : Ends A (gF k xs) ↔ ∃ ys z zs, xs = ys ++ z :: zs ∧ (z.2 || (runF k ys).en) = true ∧ A (z.1 :: zs.map Prod.fst) := by
  constructor
  · rintro ⟨Y, Z, ZS, h, hz, hA⟩
    have hl := gF_len k xs
    rw [h] at hl
    obtain ⟨ys, z, zs, rfl, hy⟩ := splitFl (xs := xs) (n := Y.length) (by rw [← hl]; simp)
    rw [gF_app] at h
    obtain ⟨h1, h2⟩ := List.append_inj h (by rw [gF_len, hy])
    injection h2 with h3 h4
    subst h3
    exact ⟨ys, z, zs, rfl, hz, by rw [← h4, gF_fst] at hA; exact hA⟩
  · rintro ⟨ys, z, zs, rfl, h1, h2⟩
    exact ⟨gF k ys, (z.1, z.2 || (runF k ys).en), gF _ zs, by rw [gF_app]; rfl, h1, by rw [gF_fst]; exact h2⟩
/-- The kids of a sequence. -/
def rowK : List Sp → Fl → List Sp
  | [], _ => []
  | k :: ks, xs => runF k xs :: rowK ks (hF k xs)
theorem rowK_nil (ks : List Sp) : rowK ks [] = ks := by
  induction ks with
  | nil => rfl
  | cons k t ih => show runF k [] :: rowK t [] = _; rw [ih]; rfl
theorem rowK_done (d : Dv) (xs : Fl) (ks : List Sp) : ∀ f, rowK (doneS (Sp.take (fitD d)) f ks) xs = rowK ks ((d, f) :: xs) := by
  induction ks generalizing xs with
  | nil => intro f; rfl
  | cons k t ih =>
    intro f
    show runF (k.take (fitD d) f) xs :: rowK (doneS (Sp.take (fitD d)) (k.en || f && k.em) t) (hF (k.take (fitD d) f) xs) = _
    rw [ih]
    rfl
theorem runF_seq (s : Sp) (h : s.op = 4) (xs : Fl) : (runF s xs).kids = rowK s.kids xs := by
  induction xs generalizing s with
  | nil => rw [rowK_nil]; rfl
  | cons x xs ih =>
    rw [runF_cons, ih _ ((s.take_op _ _).1.trans h), s.take_eq, if_pos h]
    exact rowK_done x.1 xs s.kids x.2
theorem runF_alt (s : Sp) (h : s.op = 5 ∨ s.op = 8) (xs : Fl) : (runF s xs).kids = s.kids.map fun k => runF k xs := by
  induction xs generalizing s with
  | nil => simp [runF]
  | cons x xs ih =>
    rw [runF_cons, ih _ (by rw [(s.take_op _ _).1]; exact h), s.take_eq, if_neg (by omega), if_pos (by omega), if_neg (by omega)]
    simp [Sp.kids, runF_cons]
theorem runF_plus (s : Sp) (h : s.op = 6 ∨ s.op = 7) (xs : Fl) : (runF s xs).kids = s.kids.map fun k => runF k (gF s xs) := by
  induction xs generalizing s with
  | nil => simp [runF, gF]
  | cons x xs ih =>
    rw [runF_cons, ih _ (by rw [(s.take_op _ _).1]; exact h), gF]
    have e : (s.take (fitD x.1) x.2).kids = s.kids.map fun k => k.take (fitD x.1) (x.2 || s.en) := by
      rw [s.take_eq, if_neg (by omega), if_pos (by omega), if_pos h]
      simp [Sp.kids]
    rw [e]
    simp [runF_cons]
/-- What a node's ends hangs on. -/
def Inv (s : Sp) : Prop := (s.op = 4 → s.en = endsR s.kids) ∧ (s.op = 5 ∨ s.op = 6 ∨ s.op = 7 ∨ s.op = 8 → s.en = s.kids.any Sp.en)
theorem Inv.take (s : Sp) (fit : Int → List UInt8 → Bool) (f : Bool) : Inv (s.take fit f) := by
  have ho := (s.take_op fit f).1
  refine ⟨fun h => ?_, fun h => ?_⟩
  · rw [ho] at h
    rw [s.take_eq, if_pos h]; rfl
  · rw [ho] at h
    rw [s.take_eq, if_neg (by omega), if_pos h]; rfl
theorem Inv.run {s : Sp} (h : Inv s) (xs : Fl) : Inv (runF s xs) := by
  induction xs generalizing s with
  | nil => exact h
  | cons x xs ih => rw [runF_cons]; exact ih (Inv.take s _ _)
theorem of_en (r : Rx) : (Sp.of r).en = false := by rw [Sp.of_eq]; rfl
theorem endsR_none (ks : List Rx) : endsR (ks.map Sp.of) = false := by
  unfold endsR
  induction ks with
  | nil => rfl
  | cons k t ih => rw [List.map_cons, List.foldl_cons, of_en]; exact ih
theorem Inv.of (r : Rx) : Inv (Sp.of r) := by
  refine ⟨fun _ => ?_, fun _ => ?_⟩
  · rw [of_en, Sp.of_eq]; exact (endsR_none r.kids).symm
  · rw [of_en, Sp.of_eq]
    show false = (r.kids.map Sp.of).any Sp.en
    symm
    rw [List.any_eq_false]
    intro k hk
    obtain ⟨x, _, rfl⟩ := List.mem_map.1 hk
    rw [of_en]; decide
end Go.Proofs.YtnmmfbhmfcabhaaGreatDoor
namespace Go.Proofs.YtnmmfbhmfcabhaaGreatDoor
open Go.RowKit

theorem seqL_nil (As : List Lng) : seqL As [] ↔ ∀ A ∈ As, A [] := by
  induction As with
  | nil => simp [seqL]
  | cons A t ih =>
    constructor
    · rintro ⟨u, v, h, h1, h2⟩
      obtain ⟨rfl, rfl⟩ := List.append_eq_nil_iff.1 h.symm
      intro B hB
      rcases List.mem_cons.1 hB with rfl | hB
      · exact h1
      · exact ih.1 h2 B hB
    · intro h
      exact ⟨[], [], rfl, h A (by simp), ih.2 fun B hB => h B (by simp [hB])⟩
theorem plusL_nil (A : Lng) : PlusL A [] ↔ A [] := by
  constructor
  · intro h
    generalize e : ([] : Whos) = p at h
    cases h with
    | one _ h => exact h
    | more u v _ h2 =>
      obtain ⟨rfl, rfl⟩ := List.append_eq_nil_iff.1 e.symm
      exact h2
  · exact .one _
theorem leaf_kids {r : Rx} (h : nodeB r = true) (h4 : r.op ≠ 4) (h5 : ¬(r.op = 5 ∨ r.op = 6 ∨ r.op = 7 ∨ r.op = 8)) : r.kids = [] := by
  unfold nodeB at h
  split at h
  · simp at h; exact h.2
  · split at h
    · simp at h; exact h.2
    · simp [show r.op ≠ 5 by omega, show r.op ≠ 6 by omega, show r.op ≠ 7 by omega, show r.op ≠ 8 by omega] at h
theorem em_iff (r : Rx) : Rx.all nodeB r = true → ((Sp.of r).em = true ↔ r.L []) := by
  induction r using Rx.ind with
  | h r ih =>
    intro ha
    obtain ⟨h1, h2⟩ := (Rx.all_iff _ _).1 ha
    have hany : ((r.kids.map Sp.of).any Sp.em = true) ↔ altL (r.kids.map Rx.L) [] := by
      rw [List.any_eq_true]
      constructor
      · rintro ⟨s, hs, he⟩
        obtain ⟨k, hk, rfl⟩ := List.mem_map.1 hs
        exact ⟨_, List.mem_map_of_mem hk, (ih k hk (h2 k hk)).1 he⟩
      · rintro ⟨A, hA, he⟩
        obtain ⟨k, hk, rfl⟩ := List.mem_map.1 hA
        exact ⟨_, List.mem_map_of_mem hk, (ih k hk (h2 k hk)).2 he⟩
    rw [Sp.of_eq, Rx.L_eq]
    show noneS r.op (r.kids.map Sp.of) = true ↔ _
    unfold noneS
    by_cases h4 : r.op = 4
    · rw [if_neg (by omega), if_pos h4, if_pos h4, seqL_nil, List.all_eq_true]
      constructor
      · intro h A hA
        obtain ⟨k, hk, rfl⟩ := List.mem_map.1 hA
        exact (ih k hk (h2 k hk)).1 (h _ (List.mem_map_of_mem hk))
      · intro h s hs
        obtain ⟨k, hk, rfl⟩ := List.mem_map.1 hs
        exact (ih k hk (h2 k hk)).2 (h _ (List.mem_map_of_mem hk))
    · rw [if_neg h4, if_neg h4]
      by_cases h5 : r.op = 5
      · rw [if_neg (by omega), if_pos h5]; exact hany
      · rw [if_neg h5]
        by_cases h6 : r.op = 6
        · rw [if_pos (by omega), if_pos h6]; simp
        · rw [if_neg h6]
          by_cases h7 : r.op = 7
          · rw [if_neg (by omega), if_pos h7, plusL_nil]; exact hany
          · rw [if_neg h7]
            by_cases h8 : r.op = 8
            · rw [if_pos (by omega), if_pos h8]; simp
            · rw [if_neg (by omega), if_neg h8, leaf_kids h1 h4 (by omega)]
              simp
theorem Ends.congr {A B : Lng} (h : ∀ d ps, A (d :: ps) ↔ B (d :: ps)) (xs : Fl) : Ends A xs ↔ Ends B xs := by
  constructor
  · rintro ⟨ys, z, zs, e, h1, h2⟩
    exact ⟨ys, z, zs, e, h1, (h _ _).1 h2⟩
  · rintro ⟨ys, z, zs, e, h1, h2⟩
    exact ⟨ys, z, zs, e, h1, (h _ _).2 h2⟩
theorem ends_alt (As : List Lng) (xs : Fl) : Ends (altL As) xs ↔ ∃ A ∈ As, Ends A xs := by
  constructor
  · rintro ⟨ys, z, zs, e, h1, A, hA, h2⟩
    exact ⟨A, hA, ys, z, zs, e, h1, h2⟩
  · rintro ⟨A, hA, ys, z, zs, e, h1, h2⟩
    exact ⟨ys, z, zs, e, h1, A, hA, h2⟩
theorem ends_conc (A B : Lng) (xs : Fl) : Ends (concL A B) xs ↔ (Ends A xs ∧ B []) ∨ ∃ ys z zs, xs = ys ++ z :: zs ∧ (Ends A ys ∨ z.2 = true ∧ A []) ∧ B (z.1 :: zs.map Prod.fst) := by
  constructor
  · rintro ⟨ys, z, zs, rfl, hz, u, v, e, hA, hB⟩
    cases u with
    | nil =>
      refine .inr ⟨ys, z, zs, rfl, .inr ⟨hz, hA⟩, ?_⟩
      rw [e]; exact hB
    | cons d u =>
      rw [List.cons_append] at e
      injection e with e1 e2
      obtain ⟨z1, z2, rfl, rfl, rfl⟩ := List.map_eq_append_iff.1 e2
      subst e1
      cases z2 with
      | nil => exact .inl ⟨⟨ys, z, z1, by simp, hz, hA⟩, hB⟩
      | cons a z2 => exact .inr ⟨ys ++ z :: z1, a, z2, by simp, .inl ⟨ys, z, z1, rfl, hz, hA⟩, hB⟩
  · rintro (⟨⟨ys, z, zs, rfl, hz, hA⟩, hB⟩ | ⟨ys, z, zs, rfl, ⟨a, y, b, rfl, hy, hA⟩ | ⟨hz, hA⟩, hB⟩)
    · exact ⟨ys, z, zs, rfl, hz, _, [], by simp, hA, hB⟩
    · exact ⟨a, y, b ++ z :: zs, by simp, hy, _, _, by simp, hA, hB⟩
    · exact ⟨ys, z, zs, rfl, hz, [], _, rfl, hA, hB⟩
theorem ends_plus_of {A : Lng} {p : Whos} (h : PlusL A p) : ∀ (ys : Fl) (z : Dv × Bool) (zs : Fl), p = z.1 :: zs.map Prod.fst → z.2 = true → ∃ a b c, ys ++ z :: zs = a ++ b :: c ∧ (b.2 = true ∨ Ends (PlusL A) a) ∧ A (b.1 :: c.map Prod.fst) := by
  induction h with
  | one p h =>
    intro ys z zs e hz
    exact ⟨ys, z, zs, rfl, .inl hz, e ▸ h⟩
  | more u v hu hv ih =>
    intro ys z zs e hz
    cases u with
    | nil => exact ⟨ys, z, zs, rfl, .inl hz, e ▸ hv⟩
    | cons d u =>
      rw [List.cons_append] at e
      injection e with e1 e2
      obtain ⟨z1, z2, rfl, rfl, rfl⟩ := List.map_eq_append_iff.1 e2.symm
      subst e1
      cases z2 with
      | nil => rw [List.append_nil]; exact ih ys z z1 rfl hz
      | cons a z2 => exact ⟨ys ++ z :: z1, a, z2, by simp, .inr ⟨ys, z, z1, rfl, hz, hu⟩, hv⟩
theorem ends_plus (A : Lng) (xs : Fl) : Ends (PlusL A) xs ↔ ∃ ys z zs, xs = ys ++ z :: zs ∧ (z.2 = true ∨ Ends (PlusL A) ys) ∧ A (z.1 :: zs.map Prod.fst) := by
  constructor
  · rintro ⟨ys, z, zs, rfl, hz, h⟩
    exact ends_plus_of h ys z zs rfl hz
  · rintro ⟨ys, z, zs, rfl, hz | ⟨a, y, b, rfl, hy, hu⟩, h⟩
    · exact ⟨ys, z, zs, rfl, hz, .one _ h⟩
    · exact ⟨a, y, b ++ z :: zs, by simp, hy, by
        have := PlusL.more _ _ hu h
        simpa using this⟩
theorem ends_seq (rs : List Rx) (he : ∀ k ∈ rs, ((Sp.of k).em = true ↔ k.L []) ∧ ∀ xs, (runF (Sp.of k) xs).en = true ↔ Ends k.L xs) : ∀ (xs : Fl) (e : Bool), (rowK (rs.map Sp.of) xs).foldl (fun e k => k.en || e && k.em) e = true ↔ (e = true ∧ seqL (rs.map Rx.L) []) ∨ Ends (seqL (rs.map Rx.L)) xs := by
  induction rs with
  | nil =>
    intro xs e
    show e = true ↔ _
    constructor
    · exact fun h => .inl ⟨h, rfl⟩
    · rintro (h | ⟨ys, z, zs, _, _, h⟩)
      · exact h.1
      · cases h
  | cons k t ih =>
    intro xs e
    obtain ⟨k1, k2⟩ := he k (by simp)
    show (rowK (t.map Sp.of) (hF (Sp.of k) xs)).foldl (fun e k => k.en || e && k.em) ((runF (Sp.of k) xs).en || e && (runF (Sp.of k) xs).em) = true ↔ (e = true ∧ concL k.L (seqL (t.map Rx.L)) []) ∨ Ends (concL k.L (seqL (t.map Rx.L))) xs
    rw [ih (fun k hk => he k (by simp [hk])), ends_h, ends_conc, (runF_op (Sp.of k) xs).2.2]
    have hc : concL k.L (seqL (t.map Rx.L)) [] ↔ k.L [] ∧ seqL (t.map Rx.L) [] := by
      constructor
      · rintro ⟨u, v, h, h1, h2⟩
        obtain ⟨rfl, rfl⟩ := List.append_eq_nil_iff.1 h.symm
        exact ⟨h1, h2⟩
      · rintro ⟨h1, h2⟩
        exact ⟨[], [], rfl, h1, h2⟩
    rw [hc]
    simp only [Bool.or_eq_true, Bool.and_eq_true, k1, k2]
    constructor
    · rintro (⟨h1 | h1, h2⟩ | h)
      · exact .inr (.inl ⟨h1, h2⟩)
      · exact .inl ⟨h1.1, h1.2, h2⟩
      · exact .inr (.inr h)
    · rintro (⟨h1, h2, h3⟩ | ⟨h1, h2⟩ | h)
      · exact .inl ⟨.inr ⟨h1, h2⟩, h3⟩
      · exact .inl ⟨.inl h1, h2⟩
      · exact .inr h
theorem snoc_cases (xs : Fl) : xs = [] ∨ ∃ ys x, xs = ys ++ [x] := by
  rcases List.eq_nil_or_concat xs with h | ⟨ys, x, h⟩
  · exact .inl h
  · exact .inr ⟨ys, x, by simpa using h⟩
theorem en_iff (r : Rx) : Rx.all nodeB r = true → ∀ xs, (runF (Sp.of r) xs).en = true ↔ Ends r.L xs := by
  induction r using Rx.ind with
  | h r ih =>
    intro ha
    obtain ⟨h1, h2⟩ := (Rx.all_iff _ _).1 ha
    have ho : (Sp.of r).op = r.op := by rw [Sp.of_eq]; rfl
    have hn : (Sp.of r).name = r.name := by rw [Sp.of_eq]; rfl
    have hk : (Sp.of r).kids = r.kids.map Sp.of := by rw [Sp.of_eq]; rfl
    have hi := fun xs => (Inv.of r).run xs
    have hop := fun xs => (runF_op (Sp.of r) xs).1.trans ho
    have hany : ∀ xs, ((r.kids.map Sp.of).map fun k => runF k xs).any Sp.en = true ↔ Ends (altL (r.kids.map Rx.L)) xs := by
      intro xs
      rw [List.any_eq_true, ends_alt]
      constructor
      · rintro ⟨s, hs, he⟩
        obtain ⟨s', hs', rfl⟩ := List.mem_map.1 hs
        obtain ⟨k, hk, rfl⟩ := List.mem_map.1 hs'
        exact ⟨_, List.mem_map_of_mem hk, (ih k hk (h2 k hk) xs).1 he⟩
      · rintro ⟨A, hA, he⟩
        obtain ⟨k, hk, rfl⟩ := List.mem_map.1 hA
        exact ⟨_, List.mem_map_of_mem (List.mem_map_of_mem hk), (ih k hk (h2 k hk) xs).2 he⟩
    by_cases h4 : r.op = 4
    · intro xs
      rw [(hi xs).1 ((hop xs).trans h4), runF_seq _ (ho.trans h4), hk, Rx.L_eq, if_pos h4]
      unfold endsR
      rw [ends_seq r.kids (fun k hk => ⟨em_iff k (h2 k hk), ih k hk (h2 k hk)⟩)]
      simp
    by_cases h58 : r.op = 5 ∨ r.op = 8
    · intro xs
      rw [(hi xs).2 (by rw [hop xs]; omega), runF_alt _ (by rw [ho]; exact h58), hk, hany xs, Rx.L_eq, if_neg h4]
      rcases h58 with h5 | h8
      · rw [if_pos h5]
      · rw [if_neg (by omega), if_neg (by omega), if_neg (by omega), if_pos h8]
        exact Ends.congr (fun d ps => by simp) xs
    by_cases h67 : r.op = 6 ∨ r.op = 7
    · have main : ∀ n (xs : Fl), xs.length ≤ n → ((runF (Sp.of r) xs).en = true ↔ Ends (PlusL (altL (r.kids.map Rx.L))) xs) := by
        intro n
        induction n with
        | zero =>
          intro xs hx
          obtain rfl : xs = [] := List.length_eq_zero_iff.1 (by omega)
          rw [runF_nil, of_en]
          exact ⟨fun h => absurd h (by decide), fun h => (Ends.not_nil h).elim⟩
        | succ n IH =>
          intro xs hx
          rw [(hi xs).2 (by rw [hop xs]; omega), runF_plus _ (by rw [ho]; exact h67), hk, hany, ends_g, ends_plus]
          constructor
          · rintro ⟨ys, z, zs, rfl, h, h'⟩
            rw [Bool.or_eq_true, IH ys (by simp at hx; omega)] at h
            exact ⟨ys, z, zs, rfl, h, h'⟩
          · rintro ⟨ys, z, zs, rfl, h, h'⟩
            rw [← IH ys (by simp at hx; omega), ← Bool.or_eq_true] at h
            exact ⟨ys, z, zs, rfl, h, h'⟩
      intro xs
      rw [main xs.length xs (Nat.le_refl _), Rx.L_eq, if_neg h4, if_neg (by omega)]
      rcases h67 with h6 | h7
      · rw [if_pos h6]
        exact Ends.congr (fun d ps => by simp) xs
      · rw [if_neg (by omega), if_pos h7]
    · intro xs
      rw [Rx.L_eq, if_neg h4, if_neg (by omega), if_neg (by omega), if_neg (by omega), if_neg (by omega)]
      rcases snoc_cases xs with rfl | ⟨ys, x, rfl⟩
      · rw [runF_nil, of_en]
        exact ⟨fun h => absurd h (by decide), fun h => (Ends.not_nil h).elim⟩
      · rw [runF_app, runF_cons, runF_nil, Sp.take_eq, hop ys, if_neg h4, if_neg (by omega), (runF_op (Sp.of r) ys).2.1, hn]
        show (x.2 && fitD x.1 r.op r.name) = true ↔ _
        rw [Bool.and_eq_true]
        constructor
        · rintro ⟨a, b⟩
          exact ⟨ys, x, [], rfl, a, x.1, rfl, b⟩
        · rintro ⟨a, z, zs, e, hz, d, e2, hd⟩
          injection e2 with e3 e4
          obtain rfl : zs = [] := List.map_eq_nil_iff.1 e4
          obtain ⟨_, e5⟩ := List.append_inj' e rfl
          injection e5 with e6 _
          subst e6 e3
          exact ⟨hz, hd⟩
/-- What Match tells is what the expression means. -/
theorem matchB_iff {r : Rx} (h : Rx.all nodeB r = true) (ps : Whos) : matchB r ps = true ↔ r.L ps := by
  unfold matchB
  cases ps with
  | nil => rw [if_pos rfl]; exact em_iff r h
  | cons a t =>
    rw [if_neg (by simp)]
    have e : runS (Sp.of r) (a :: t) = runF (Sp.of r) ((a, true) :: t.map fun d => (d, false)) := by
      rw [runF_cons]
      show t.foldl _ _ = _
      unfold runF
      rw [List.foldl_map]
      rfl
    rw [e, en_iff r h]
    constructor
    · rintro ⟨ys, z, zs, e, hz, hL⟩
      cases ys with
      | nil =>
        injection e with e1 e2
        subst e1 e2
        simpa [Function.comp_def] using hL
      | cons y ys =>
        rw [List.cons_append] at e
        injection e with e1 e2
        have hm : z ∈ t.map fun d => (d, false) := by rw [e2]; simp
        obtain ⟨d, _, rfl⟩ := List.mem_map.1 hm
        cases hz
    · intro hL
      exact ⟨[], (a, true), _, rfl, rfl, by simpa [Function.comp_def] using hL⟩
end Go.Proofs.YtnmmfbhmfcabhaaGreatDoor
namespace Go.Proofs.YtnmmfbhmfcabhaaGreatDoor
open Go.RowKit

theorem Rx.L_4 (nm : List UInt8) (ks : List Rx) : (Rx.mk 4 nm ks).L = seqL (ks.map Rx.L) := by rw [Rx.L, if_pos rfl]
theorem Rx.L_5 (nm : List UInt8) (ks : List Rx) : (Rx.mk 5 nm ks).L = altL (ks.map Rx.L) := by rw [Rx.L, if_neg (by omega), if_pos rfl]
theorem Rx.L_6 (nm : List UInt8) (ks : List Rx) : (Rx.mk 6 nm ks).L = fun ps => ps = [] ∨ PlusL (altL (ks.map Rx.L)) ps := by rw [Rx.L, if_neg (by omega), if_neg (by omega), if_pos rfl]
theorem Rx.L_7 (nm : List UInt8) (ks : List Rx) : (Rx.mk 7 nm ks).L = PlusL (altL (ks.map Rx.L)) := by rw [Rx.L, if_neg (by omega), if_neg (by omega), if_neg (by omega), if_pos rfl]
theorem Rx.L_8 (nm : List UInt8) (ks : List Rx) : (Rx.mk 8 nm ks).L = fun ps => ps = [] ∨ altL (ks.map Rx.L) ps := by rw [Rx.L, if_neg (by omega), if_neg (by omega), if_neg (by omega), if_neg (by omega), if_pos rfl]
theorem seqL_app (As Bs : List Lng) (ps : Whos) : seqL (As ++ Bs) ps ↔ concL (seqL As) (seqL Bs) ps := by
  induction As generalizing ps with
  | nil =>
    constructor
    · intro h; exact ⟨[], ps, rfl, rfl, h⟩
    · rintro ⟨u, v, rfl, hu, hv⟩
      rw [show u = [] from hu]
      exact hv
  | cons A t ih =>
    constructor
    · rintro ⟨u, v, rfl, hu, hv⟩
      obtain ⟨a, b, rfl, ha, hb⟩ := (ih v).1 hv
      exact ⟨u ++ a, b, by simp, ⟨u, a, rfl, hu, ha⟩, hb⟩
    · rintro ⟨u, v, rfl, ⟨a, b, rfl, ha, hb⟩, hv⟩
      exact ⟨a, b ++ v, by simp, ha, (ih _).2 ⟨b, v, rfl, hb, hv⟩⟩
theorem seqL_one (A : Lng) (ps : Whos) : seqL [A] ps ↔ A ps := by
  constructor
  · rintro ⟨u, v, rfl, hu, hv⟩
    rw [show v = [] from hv, List.append_nil]
    exact hu
  · intro h; exact ⟨ps, [], by simp, h, rfl⟩
theorem concL_congr {A B C D : Lng} (h : ∀ ps, A ps ↔ C ps) (k : ∀ ps, B ps ↔ D ps) (ps : Whos) : concL A B ps ↔ concL C D ps := by
  constructor
  · rintro ⟨u, v, rfl, hu, hv⟩; exact ⟨u, v, rfl, (h u).1 hu, (k v).1 hv⟩
  · rintro ⟨u, v, rfl, hu, hv⟩; exact ⟨u, v, rfl, (h u).2 hu, (k v).2 hv⟩
theorem PlusL.mono {A B : Lng} (h : ∀ ps, A ps → B ps) {ps : Whos} (k : PlusL A ps) : PlusL B ps := by
  induction k with
  | one ps hp => exact .one ps (h ps hp)
  | more u v _ hv ih => exact .more u v ih (h v hv)
theorem PlusL.congr {A B : Lng} (h : ∀ ps, A ps ↔ B ps) (ps : Whos) : PlusL A ps ↔ PlusL B ps := ⟨PlusL.mono fun p => (h p).1, PlusL.mono fun p => (h p).2⟩
theorem PlusL.ahead {A : Lng} {u v : Whos} (hu : A u) (h : PlusL A v) : PlusL A (u ++ v) := by
  induction h with
  | one ps hp => exact .more u ps (.one u hu) hp
  | more a b _ hb ih => rw [← List.append_assoc]; exact .more (u ++ a) b ih hb
theorem PlusL.both {A : Lng} {u v : Whos} (hu : PlusL A u) (h : PlusL A v) : PlusL A (u ++ v) := by
  induction h with
  | one ps hp => exact .more u ps hu hp
  | more a b _ hb ih => rw [← List.append_assoc]; exact .more (u ++ a) b ih hb
/-- Any number of times. -/
def starL (A : Lng) : Lng := fun ps => ps = [] ∨ PlusL A ps
theorem starL_both {A : Lng} {u v : Whos} (hu : starL A u) (hv : starL A v) : starL A (u ++ v) := by
  rcases hu with rfl | hu
  · exact hv
  rcases hv with rfl | hv
  · rw [List.append_nil]; exact Or.inr hu
  · exact Or.inr (hu.both hv)
theorem starL_congr {A B : Lng} (h : ∀ ps, A ps ↔ B ps) (ps : Whos) : starL A ps ↔ starL B ps := or_congr Iff.rfl (PlusL.congr h ps)
theorem starL_mono {A B : Lng} (h : ∀ ps, A ps → B ps) {ps : Whos} (k : starL A ps) : starL B ps := k.imp_right (PlusL.mono h)
theorem plus_front {A : Lng} (ps : Whos) : PlusL A ps ↔ concL A (starL A) ps := by
  constructor
  · intro h
    induction h with
    | one ps hp => exact ⟨ps, [], by simp, hp, Or.inl rfl⟩
    | more u v _ hv ih =>
      obtain ⟨a, b, rfl, ha, hb⟩ := ih
      refine ⟨a, b ++ v, by simp, ha, Or.inr ?_⟩
      rcases hb with rfl | hb
      · exact .one _ hv
      · exact .more b v hb hv
  · rintro ⟨u, v, rfl, hu, rfl | hv⟩
    · rw [List.append_nil]; exact .one u hu
    · exact hv.ahead hu
theorem star_either (A B : Lng) (ps : Whos) : starL (fun ps => A ps ∨ B ps) ps ↔ starL (concL (starL A) (starL B)) ps := by
  constructor
  · refine starL_mono fun p hp => ?_
    rcases hp with h | h
    · exact ⟨p, [], by simp, Or.inr (.one p h), Or.inl rfl⟩
    · exact ⟨[], p, rfl, Or.inl rfl, Or.inr (.one p h)⟩
  · have key : ∀ q, concL (starL A) (starL B) q → starL (fun ps => A ps ∨ B ps) q := by
      rintro q ⟨u, v, rfl, hu, hv⟩
      exact starL_both (starL_mono (fun _ h => Or.inl h) hu) (starL_mono (fun _ h => Or.inr h) hv)
    rintro (rfl | h)
    · exact Or.inl rfl
    · induction h with
      | one ps hp => exact key ps hp
      | more u v _ hv ih => exact starL_both ih (key v hv)

/-- Two as one, as the document has it. -/
def jd2 (op : Int) (a b : Rx) : Rx := if op = 4 ∧ (flatK op [a, b]).length = 1 then (flatK op [a, b]).headD (.mk op [] []) else .mk op [] (flatK op [a, b])
theorem flatK_two (op : Int) (a b : Rx) : flatK op [a, b] = (if a.op == op then a.kids else [a]) ++ (if b.op == op then b.kids else [b]) := by simp [flatK]
theorem seq_part (a : Rx) (ps : Whos) : seqL ((if a.op == 4 then a.kids else [a]).map Rx.L) ps ↔ a.L ps := by
  by_cases h : a.op = 4
  · rw [if_pos (by simpa using h), a.L_eq, if_pos h]
  · rw [if_neg (by simpa using h)]; exact seqL_one _ _
theorem alt_part (a : Rx) (ps : Whos) : altL ((if a.op == 5 then a.kids else [a]).map Rx.L) ps ↔ a.L ps := by
  by_cases h : a.op = 5
  · rw [if_pos (by simpa using h), a.L_eq, if_neg (by omega), if_pos h]
  · rw [if_neg (by simpa using h)]; simp [altL]
theorem jd2_seq (a b : Rx) (ps : Whos) : (jd2 4 a b).L ps ↔ concL a.L b.L ps := by
  have key : seqL ((flatK 4 [a, b]).map Rx.L) ps ↔ concL a.L b.L ps := by
    rw [flatK_two, List.map_append, seqL_app]
    exact concL_congr (seq_part a) (seq_part b) ps
  unfold jd2
  split
  · rename_i h
    obtain ⟨x, hx⟩ := List.length_eq_one_iff.1 h.2
    rw [hx] at key ⊢
    rw [← key]
    exact (seqL_one _ _).symm
  · rw [Rx.L_4]
    exact key
theorem jd2_alt (a b : Rx) (ps : Whos) : (jd2 5 a b).L ps ↔ a.L ps ∨ b.L ps := by
  unfold jd2
  rw [if_neg (by omega), Rx.L_5]
  rw [flatK_two, List.map_append]
  rw [← alt_part a, ← alt_part b]
  simp only [altL, List.mem_append]
  constructor
  · rintro ⟨A, h | h, hA⟩
    · exact Or.inl ⟨A, h, hA⟩
    · exact Or.inr ⟨A, h, hA⟩
  · rintro (⟨A, h, hA⟩ | ⟨A, h, hA⟩)
    · exact ⟨A, Or.inl h, hA⟩
    · exact ⟨A, Or.inr h, hA⟩
/-- A node with one kid. -/
def oneR (op : Int) (r : Rx) : Rx := .mk op [] [r]
theorem altL_one (A : Lng) (ps : Whos) : altL [A] ps ↔ A ps := by simp [altL]
theorem star_L (r : Rx) (ps : Whos) : (oneR 6 r).L ps ↔ starL r.L ps := by
  rw [oneR, Rx.L_6]
  exact starL_congr (altL_one r.L) ps
theorem plus_L (r : Rx) (ps : Whos) : (oneR 7 r).L ps ↔ PlusL r.L ps := by
  rw [oneR, Rx.L_7]
  exact PlusL.congr (altL_one r.L) ps
theorem opt_L (r : Rx) (ps : Whos) : (oneR 8 r).L ps ↔ ps = [] ∨ r.L ps := by
  rw [oneR, Rx.L_8]
  exact or_congr Iff.rfl (altL_one r.L ps)
/-- The three laws. -/
theorem means_plus (r : Rx) (ps : Whos) : (oneR 7 r).L ps ↔ (jd2 4 r (oneR 6 r)).L ps := by
  rw [plus_L, jd2_seq, plus_front]
  exact concL_congr (fun _ => Iff.rfl) (fun p => (star_L r p).symm) ps
theorem means_opt (r : Rx) (ps : Whos) : (oneR 8 r).L ps ↔ (jd2 5 r (.mk 4 [] [])).L ps := by
  rw [opt_L, jd2_alt, or_comm]
  refine or_congr Iff.rfl ?_
  rw [Rx.L_4]
  exact Iff.rfl
theorem means_star (r s : Rx) (ps : Whos) : (oneR 6 (jd2 5 r s)).L ps ↔ (oneR 6 (jd2 4 (oneR 6 r) (oneR 6 s))).L ps := by
  rw [star_L, star_L, starL_congr (jd2_alt r s), starL_congr (jd2_seq (oneR 6 r) (oneR 6 s)), star_either]
  exact starL_congr (concL_congr (fun p => (star_L r p).symm) (fun p => (star_L s p).symm)) ps
/-- Both may be: a path is of both or of none. -/
theorem match_alike {a b : Rx} (h : ∀ ps, a.L ps ↔ b.L ps) (ha : chkN a = 0) (hb : chkN b = 0) (ps : Whos) : matchB a ps = matchB b ps := by
  have h1 := matchB_iff (chk_zero ha).1 ps
  have h2 := matchB_iff (chk_zero hb).1 ps
  rw [Bool.eq_iff_iff, h1, h2]
  exact h ps
end Go.Proofs.YtnmmfbhmfcabhaaGreatDoor
namespace Go.Proofs.YtnmmfbhmfcabhaaGreatDoor
open Go.RowKit

/-- What a call that tells an expression leaves. -/
def TellS (w : World) (r : Rx) (e : Ending) (w' : World) : Prop := ∃ u n c, e = .returned (.agg #[.int .i64 r.op, .string (tx r.name), .slice u n c]) ∧ Hid (RxS w' (.slice u n c) r.kids) ∧ Hid (Below w.heap.size w w')
theorem rx_row1 {w : World} {g : Nat} {r : Rx} {v : Value} {cs : Array Value} (hb : w.heap[g]? = some (.cells cs 25 (0, 0))) (c0 : cs[0]? = some (.int .i64 r.op)) (c1 : cs[1]? = some (.string (tx r.name))) (c2 : cs[2]? = some v) (h : RxS w v r.kids) : RxS w (.slice (some ⟨g, 0, none⟩) 1 1) [r] := by
  refine RxS.some g 0 1 [r] [v] (Array.getElem?_eq_some_iff.1 hb).1 rfl (fun i k u hk hu => ?_) (fun i k u hk hu => ?_)
  · cases i with
    | zero =>
      simp at hk hu
      subst hk hu
      exact ⟨by rw [cell_at hb]; exact c0, by rw [cell_at hb]; exact c1, by rw [cell_at hb]; exact c2⟩
    | succ i => simp at hk
  · cases i with
    | zero =>
      simp at hk hu
      subst hk hu
      exact h
    | succ i => simp at hk

set_option maxRecDepth 20000 in
set_option maxHeartbeats 2000000 in
theorem one_any {w : World} {v : Value} {r : Rx} {op : Int} (hS : RxS w v r.kids) : Calls Tryz.prog 24 #[.int .i64 op, .agg #[.int .i64 r.op, .string (tx r.name), v]] w fun e w' => TellS w (oneR op r) e w' := by
  have HS := hid hS
  obtain ⟨ao, cap, rfl, -⟩ := hS.at
  obtain ⟨kn, hkn⟩ : ∃ kn, kn = r.kids.length := ⟨_, rfl⟩
  rw [← hkn] at HS ⊢
  clear hS hkn
  go_enter Tryz.func24, Tryz.ntmps24
  go_wp2
  have hB := (((Below.refl w.heap.size w).alloc (Nat.le_refl _) (rxo r.op r.name (.slice ao kn cap))).alloc (by simp) (rxo op [] (.slice (some ⟨w.heap.size + 1 + 1, 0, none⟩) 1 1))).alloc (by simp only [World.size_alloc]; omega) (rxo r.op r.name (.slice ao kn cap))
  refine bodyPost_ret (v := .agg #[.int .i64 op, .string (tx []), .slice (some ⟨w.heap.size + 1 + 1, 0, none⟩) 1 1]) (by simp [results, Tryz.results24, go_sem]) rfl ⟨_, _, _, rfl, ?_, hB⟩
  have hnew := new_0 ((w.alloc (rxo r.op r.name (.slice ao kn cap))).alloc (rxo op [] (.slice (some ⟨w.heap.size + 1 + 1, 0, none⟩) 1 1))) (rxo r.op r.name (.slice ao kn cap))
  simp only [World.size_alloc] at hnew
  exact rx_row1 hnew rfl rfl rfl (HS.out.on hB)

/-- A path, cut. -/
theorem PathAt.cut {w : World} {v : Value} {ps : Whos} (h : PathAt w v ps) : ∃ ao cap, v = .slice ao ps.length cap := by
  obtain ⟨ao, cap, e, _⟩ := h
  exact ⟨ao, cap, e⟩
theorem PathAt.on {w w' : World} {v : Value} {ps : Whos} (h : PathAt w v ps) (hb : Below w.heap.size w w') : PathAt w' v ps := by
  obtain ⟨ao, cap, e, hr⟩ := h
  refine ⟨ao, cap, e, ?_⟩
  rcases hr with hr | ⟨g, o, ea, hg, hc⟩
  · exact Or.inl hr
  · refine Or.inr ⟨g, o, ea, Nat.lt_of_lt_of_le hg hb.size, fun i p hp => ?_⟩
    obtain ⟨h1, vo, vn, vc, c0, c1, h2⟩ := hc i p hp
    exact ⟨h1, vo, vn, vc, (hb.cell (by exact hg)).trans c0, (hb.cell (by exact hg)).trans c1, h2.below hb⟩

/-- What the law's path leaves. -/
def PathPost (w : World) (ps : Whos) (e : Ending) (w' : World) : Prop := ∃ u n c, e = .returned (.slice u n c) ∧ Hid (PathAt w' (.slice u n c) (ps.take 30)) ∧ Hid (Below w.heap.size w w')

set_option maxRecDepth 20000 in
set_option maxHeartbeats 2000000 in
theorem path9_any {w : World} {v : Value} {ps : Whos} (hP : PathAt w v ps) (hc : ∃ ao cap, v = .slice ao ps.length cap ∧ ps.length ≤ cap) (hn : ps.length ≤ maxLen) : Calls Tryz.prog 18 #[v] w fun e w' => PathPost w ps e w' := by
  obtain ⟨ao, cap, rfl, hr⟩ := hP
  obtain ⟨ao', cap', e, hcl⟩ := hc
  injection e with e1 _ e2
  subst e1 e2
  have HR := hid hr
  obtain ⟨n, hnn⟩ : ∃ n, n = ps.length := ⟨_, rfl⟩
  have HN := hid hnn
  unfold maxLen at hn
  rw [← hnn] at hn hcl ⊢
  clear hr hnn
  by_cases h30 : 30 < n
  · have hI : (30 : Int) < (n : Int) := by omega
    have hI2 : (30 : Int) ≤ (cap : Int) := by omega
    go_enter Tryz.func18, Tryz.ntmps18
    go_wp2
    refine bodyPost_ret (v := .slice ao 30 cap) (by simp [results, Tryz.results18, go_sem]) rfl ⟨_, _, _, rfl, ⟨ao, cap, ?_, ?_⟩, Below.refl _ _⟩
    · rw [List.length_take, ← HN.out, Nat.min_eq_left (by omega)]
    · rcases HR.out with h | ⟨g, o, ea, hg, hc⟩
      · exact Or.inl (by rw [h]; rfl)
      · refine Or.inr ⟨g, o, ea, hg, fun i p hp => hc i p ?_⟩
        rw [List.getElem?_take] at hp
        split at hp
        · exact hp
        · cases hp
  · have hI : ¬ (30 : Int) < (n : Int) := by omega
    go_enter Tryz.func18, Tryz.ntmps18
    go_wp2
    refine bodyPost_ret (v := .slice ao n cap) (by simp [results, Tryz.results18, go_sem]) rfl ⟨_, _, _, rfl, ?_, Below.refl _ _⟩
    rw [List.take_of_length_le (by rw [← HN.out]; omega)]
    exact ⟨ao, cap, by rw [← HN.out], HR.out⟩

set_option maxRecDepth 20000 in
set_option maxHeartbeats 2000000 in
theorem alike9_any {w : World} {va vb vp : Value} {a b : Rx} {ps : Whos} (hA : RxS w va a.kids) (hB : RxS w vb b.kids) (fA : a.Fit) (fB : b.Fit) (hP : PathAt w vp ps) (hn : ps.length ≤ 1000000) (hm : chkN a = 0 → chkN b = 0 → matchB a ps = matchB b ps) :
    Calls Tryz.prog 25 #[.agg #[.int .i64 a.op, .string (tx a.name), va], .agg #[.int .i64 b.op, .string (tx b.name), vb], vp] w fun e w' => e = .returned (.bool true) ∧ Below w.heap.size w w' := by
  have HA := hid (fun (W : World) (hb : Below w.heap.size w W) => gMatch_any (r := a) (hA.on hb) fA (hP.on hb) hn)
  have HB := hid (fun (W : World) (hb : Below w.heap.size w W) => gMatch_any (r := b) (hB.on hb) fB (hP.on hb) hn)
  obtain ⟨ca, hca⟩ : ∃ c, c = chkN a := ⟨_, rfl⟩
  obtain ⟨cb, hcb⟩ : ∃ c, c = chkN b := ⟨_, rfl⟩
  obtain ⟨x, hx⟩ : ∃ x, x = (if ca = 0 then matchB a ps else false) := ⟨_, rfl⟩
  obtain ⟨y, hy⟩ : ∃ y, y = (if cb = 0 then matchB b ps else false) := ⟨_, rfl⟩
  have hxy : ca = 0 → cb = 0 → x = y := fun h1 h2 => by rw [hx, hy, if_pos h1, if_pos h2]; exact hm (hca.symm.trans h1) (hcb.symm.trans h2)
  rw [← hca, ← hx] at HA
  rw [← hcb, ← hy] at HB
  obtain ⟨ao, cap, rfl, -⟩ := hA.at
  obtain ⟨bo, cbp, rfl, -⟩ := hB.at
  obtain ⟨po, pcap, rfl⟩ := hP.cut
  obtain ⟨kn, hkn⟩ : ∃ kn, kn = a.kids.length := ⟨_, rfl⟩
  obtain ⟨km, hkm⟩ : ∃ km, km = b.kids.length := ⟨_, rfl⟩
  rw [← hkn] at HA ⊢
  rw [← hkm] at HB ⊢
  have BA := hid (show boxed w a (.slice ao kn cap) ((w.alloc (rxo a.op a.name (.slice ao kn cap))).alloc (rxo b.op b.name (.slice bo km cbp))) from (boxed.start w a (.slice ao kn cap)).alloc (by simp) _)
  have BB := hid (show boxed (w.alloc (rxo a.op a.name (.slice ao kn cap))) b (.slice bo km cbp) ((w.alloc (rxo a.op a.name (.slice ao kn cap))).alloc (rxo b.op b.name (.slice bo km cbp))) from boxed.start _ _ _)
  clear hA hB fA fB hP hn hm hca hcb hx hy hkn hkm
  go_enter Tryz.func25, Tryz.ntmps25
  go_wp2_with fail
  refine (HA.out _ BA.out.low).mono ?_
  rintro en w1 ⟨rfl, hb1⟩
  have B1 := hid (BA.out.on hb1)
  have B2 := hid (BB.out.on hb1)
  obtain ⟨c0, c1, c2⟩ := B2.out.cells
  simp only [World.size_alloc] at c0 c1 c2
  clear hb1
  go_wp2_with fail
  refine (HB.out _ B1.out.low).mono ?_
  rintro en w2 ⟨rfl, hb2⟩
  have B3 := hid (B1.out.on hb2)
  clear hb2
  by_cases h1 : ca = 0
  · by_cases h2 : cb = 0
    · obtain rfl := hxy h1 h2
      subst h1 h2
      go_wp2
      exact bodyPost_ret (v := .bool true) (by simp [results, Tryz.results25, go_sem]) rfl ⟨rfl, B3.out.low⟩
    · subst h1
      have hI : ((cb : Int) == 0) = false := by rw [beq_eq_false_iff_ne]; omega
      go_wp2
      exact bodyPost_ret (v := .bool true) (by simp [results, Tryz.results25, go_sem]) rfl ⟨rfl, B3.out.low⟩
  · have hI : ((ca : Int) == 0) = false := by rw [beq_eq_false_iff_ne]; omega
    go_wp2
    exact bodyPost_ret (v := .bool true) (by simp [results, Tryz.results25, go_sem]) rfl ⟨rfl, B3.out.low⟩
end Go.Proofs.YtnmmfbhmfcabhaaGreatDoor
