/-
  The document's device.
-/
import Derived.Test.YtkepgjijidebhaaGreatDoorJDocWAnd
import Derived.Test.YtkepgjijidebhaaGreatDoorJSimM
namespace Go.Proofs.YtkepgjijidebhaaGreatDoor
open Go.RowKit
open Wo (Wd)
namespace Dt

/-- The document's reader, and a device that is being read in block kb. -/
structure DvJ (w : World) (rb g kb : Nat) (l : List Wd) (i a b c : Nat) (nm : List UInt8) (vc vp : Value) (w' : World) : Prop where
  rd : RfAt w' rb g l i a b c
  on : w.grownBy w' (some rb)
  box : w'.heap[kb]? = some (dob nm vc vp)
  base : w.heap.size ≤ kb
  far : kb ≠ rb
/-- A stage of a device: what was read of its lists, what is left; or a fault. -/
abbrev DvR := Except Ru.Ft ((List (List UInt8) × List (List UInt8)) × List Wd)
def DvT (w : World) (rb g kb : Nat) (l : List Wd) (a b : Nat) (nm : List UInt8) (R : DvR) (w' : World) : Prop :=
  ∃ va n vk pa m pk i a' b' c, DvJ w rb g kb l i a' b' c nm (.slice va n vk) (.slice pa m pk) w' ∧ ((∃ cs ps, R = .ok ((cs, ps), l.drop i) ∧ c = 0 ∧ a' = a ∧ b' = b ∧ n = cs.length ∧ m = ps.length ∧ w'.ownsRow w.heap.size 9 1 (.slice va n vk) n (svs cs) ∧ w'.ownsRow w.heap.size 9 1 (.slice pa m pk) m (svs ps)) ∨ (∃ f, R = .error f ∧ c ≠ 0 ∧ f = (a', b', c)))
/-- The classes. -/
def dvR1 (e : Wd) (t : List Wd) : DvR := match To.opt e 16 To.classT t with | .error f => .error f | .ok (cs, r) => .ok ((cs, []), r)
/-- The ports. -/
def dvR2 (e : Wd) : DvR → DvR
  | .error f => .error f
  | .ok (q, r) => match To.opt e 64 To.portT r with | .error f => .error f | .ok (ps, r') => .ok ((q.1, ps), r')
/-- The line's end. -/
def dvR3 (e : Wd) : DvR → DvR
  | .error f => .error f
  | .ok (q, r) => if r ≠ [] then .error (Ru.ft (Ru.nx e r) 110) else .ok (q, r)
/-- Not too many. -/
def dvR4 (x : Wd) (n : Nat) : DvR → DvR
  | .error f => .error f
  | .ok (q, r) => if 256 ≤ n then .error (Ru.ft x 3) else .ok (q, r)
def dvOf (nm : List UInt8) : DvR → Except Ru.Ft To.Dv
  | .error f => .error f
  | .ok (q, _) => .ok ⟨nm, q.1, q.2⟩
theorem dvA_eq (x e : Wd) (n : Nat) (nm : List UInt8) (t : List Wd) : To.devA x e n nm (To.opt e 16 To.classT t) = dvOf nm (dvR4 x n (dvR3 e (dvR2 e (dvR1 e t)))) := by
  unfold dvR1
  cases To.opt e 16 To.classT t with
  | error f => rfl
  | ok q =>
    obtain ⟨cs, r⟩ := q
    show To.devB x e n nm cs (To.opt e 64 To.portT r) = dvOf nm (dvR4 x n (dvR3 e (match To.opt e 64 To.portT r with | .error f => .error f | .ok (ps, r') => .ok ((cs, ps), r'))))
    cases To.opt e 64 To.portT r with
    | error f => rfl
    | ok q =>
      obtain ⟨ps, r'⟩ := q
      show To.devB x e n nm cs (.ok (ps, r')) = dvOf nm (dvR4 x n (dvR3 e (.ok ((cs, ps), r'))))
      show (if r' ≠ [] then .error (Ru.ft (Ru.nx e r') 110) else if 256 ≤ n then .error (Ru.ft x 3) else .ok ⟨nm, cs, ps⟩) = dvOf nm (dvR4 x n (if r' ≠ [] then .error (Ru.ft (Ru.nx e r') 110) else .ok ((cs, ps), r')))
      by_cases h : r' ≠ []
      · rw [if_pos h, if_pos h]; rfl
      · rw [if_neg h, if_neg h]
        show _ = dvOf nm (if 256 ≤ n then .error (Ru.ft x 3) else .ok ((cs, ps), r'))
        by_cases h2 : 256 ≤ n
        · rw [if_pos h2, if_pos h2]; rfl
        · rw [if_neg h2, if_neg h2]; rfl
theorem dvR1_ps {e : Wd} {t r : List Wd} {cs ps : List (List UInt8)} (h : dvR1 e t = .ok ((cs, ps), r)) : ps = [] := by
  unfold dvR1 at h
  cases ho : To.opt e 16 To.classT t with
  | error f => rw [ho] at h; cases h
  | ok q =>
    rw [ho] at h
    injection h with h
    injection h with h _
    injection h with _ h
    exact h.symm
theorem dvR2_ok {l : List Wd} {i : Nat} (cs : List (List UInt8)) : dvR2 (Ru.endW l) (.ok ((cs, []), l.drop i)) = match (if (atW l i).1 = To.portT then To.lst (Ru.endW l) 64 (l.drop (i + 1)) [] else .ok ([], l.drop i)) with | .error f => .error f | .ok (ps, r') => .ok ((cs, ps), r') := by
  show (match To.opt (Ru.endW l) 64 To.portT (l.drop i) with | .error f => (Except.error f : DvR) | .ok (ps, r') => (Except.ok ((cs, ps), r') : DvR)) = _
  unfold To.opt
  rw [List.tail_drop]
/-- Is the next word port? What is known then. -/
def DvP (w : World) (rb g kb : Nat) (l : List Wd) (a b : Nat) (nm : List UInt8) (R : DvR) (bt : Bool) (w' : World) : Prop :=
  (bt = true ∧ ∃ va n vk pa pm pk i cs, DvJ w rb g kb l i a b 0 nm (.slice va n vk) (.slice pa pm pk) w' ∧ R = .ok ((cs, []), l.drop i) ∧ (atW l i).1 = To.portT ∧ i < l.length ∧ n = cs.length ∧ w'.ownsRow w.heap.size 9 1 (.slice va n vk) n (svs cs)) ∨ (bt = false ∧ DvT w rb g kb l a b nm (dvR2 (Ru.endW l) R) w')
/-- Is the line not at its end? Are there too many? What is known then. -/
def DvQ (w : World) (rb g kb : Nat) (l : List Wd) (a b : Nat) (nm : List UInt8) (R : DvR) (F : Nat → Ru.Ft) (bt : Bool) (w' : World) : Prop :=
  (bt = true ∧ ∃ va n vk pa pm pk i, DvJ w rb g kb l i a b 0 nm (.slice va n vk) (.slice pa pm pk) w' ∧ R = .error (F i)) ∨ (bt = false ∧ DvT w rb g kb l a b nm R w')
theorem dvR3_ok {l : List Wd} {i : Nat} (q : List (List UInt8) × List (List UInt8)) : dvR3 (Ru.endW l) (.ok (q, l.drop i)) = if i < l.length then .error (Ru.ft (atW l i) 110) else .ok (q, l.drop i) := by
  show (if l.drop i ≠ [] then _ else _) = _
  by_cases h : i < l.length
  · rw [if_pos h, if_pos (by rw [Ne, List.drop_eq_nil_iff]; omega)]
  · rw [if_neg h, if_neg (by rw [Ne, List.drop_eq_nil_iff]; omega)]
/-- What device leaves. -/
def DvD (B : Nat) (w : World) (pb rb g : Nat) (l : List Wd) (a b : Nat) (x0 vd x2 x3 : Value) (ds : List (To.Dv × Value × Value)) (r : Except Ru.Ft To.Dv) (en : Ending) (w' : World) : Prop :=
  en = .returned (.tuple #[]) ∧ Gr3D w w' rb pb vd ∧ ((∃ d vc vp v' j, r = .ok d ∧ w'.heap[pb]? = some (.cells #[x0, v', x2, x3] 68 (0, 0)) ∧ DvO B w' v' (ds ++ [(d, vc, vp)]) ∧ RfAt w' rb g l j a b 0) ∨ (∃ f j, r = .error f ∧ f.2.2 ≠ 0 ∧ RfAt w' rb g l j f.1 f.2.1 f.2.2))
theorem Tryz.strNeD : (9 : TypeId) ≠ 80 := by decide
theorem Tryz.devNeR : (80 : TypeId) ≠ 72 := by decide
theorem Tryz.strNeR : (9 : TypeId) ≠ 72 := by decide
theorem Tryz.devNeP : (80 : TypeId) ≠ 68 := by decide
theorem Tryz.strNeP : (9 : TypeId) ≠ 68 := by decide
theorem Tryz.namNeR : (127 : TypeId) ≠ 72 := by decide
theorem Tryz.namNeP : (127 : TypeId) ≠ 68 := by decide
/-- A row and a block of another kind are apart. -/
theorem own_notJ {w : World} {B : Nat} {e t : TypeId} {s : Nat} {v : Value} {n : Nat} {xs : List Value} {k : Nat} {cs : Array Value} {fr : Nat × Nat} (h : w.ownsRow B e s v n xs) (hk : w.heap[k]? = some (.cells cs t fr)) (he : e ≠ t) : v.ownBlock ≠ some k := fun q => by
  obtain ⟨cur, h1⟩ := own_blockJ h q
  rw [hk] at h1
  injection h1 with h1
  injection h1 with _ h2 _
  exact he h2.symm
theorem dvo_kept {B rb : Nat} {w W : World} {v : Value} {ds : List (To.Dv × Value × Value)} {cs : Array Value} {fr : Nat × Nat} (h : DvO B w v ds) (hr : w.heap[rb]? = some (.cells cs 72 fr)) (hg : w.grownBy W (some rb)) : DvO B W v ds :=
  ⟨own_sameJ h.row fun k q => hg.block k (h.row.lt k q).2 (fun e => own_notJ h.row hr Tryz.devNeR (by rw [q]; exact e)),
   fun z hz => own_sameJ (h.cls z hz) fun k q => hg.block k ((h.cls z hz).lt k q).2 (fun e => own_notJ (h.cls z hz) hr Tryz.strNeR (by rw [q]; exact e)),
   fun z hz => own_sameJ (h.prt z hz) fun k q => hg.block k ((h.prt z hz).lt k q).2 (fun e => own_notJ (h.prt z hz) hr Tryz.strNeR (by rw [q]; exact e))⟩
theorem DvJ.step {w w1 : World} {rb g kb : Nat} {l : List Wd} {i a b c : Nat} {nm : List UInt8} {vc vp : Value} (h : DvJ w rb g kb l i a b c nm vc vp w1) (i' : Nat) (hi : i' ≤ l.length) : DvJ w rb g kb l i' a b c nm vc vp (w1.setCell ⟨rb, 1, none⟩ (.int .i64 i')) :=
  ⟨h.rd.step i' hi, grownTwo h.on (grownSet _), (Below.heap_setCell _ _ _ _ h.far).trans h.box, h.base, h.far⟩
theorem DvJ.on' {w w1 w2 : World} {rb g kb : Nat} {l : List Wd} {i i' a b c a' b' c' : Nat} {nm : List UInt8} {vc vp : Value} (h : DvJ w rb g kb l i a b c nm vc vp w1) (hr : RfAt w2 rb g l i' a' b' c') (hg : w1.grownBy w2 (some rb)) : DvJ w rb g kb l i' a' b' c' nm vc vp w2 :=
  ⟨hr, grownTwo h.on hg, (hg.block _ (lt_of_block h.box) (fun e => h.far (by injection e))).trans h.box, h.base, h.far⟩
theorem DvJ.setC {w w1 : World} {rb g kb : Nat} {l : List Wd} {i a b c : Nat} {nm : List UInt8} {vc vp : Value} (h : DvJ w rb g kb l i a b c nm vc vp w1) (hgk : g ≠ kb) (v : Value) : DvJ w rb g kb l i a b c nm v vp (w1.setCell ⟨kb, 1, none⟩ v) :=
  ⟨h.rd.far h.far hgk v, ⟨h.on.os, h.on.tape, h.on.output, by simpa using h.on.size, fun k hk hn => (Below.heap_setCell _ _ _ _ (fun e => by have e' : k = kb := e; have := h.base; omega)).trans (h.on.block k hk hn)⟩, by rw [block_set (o := 1) _ h.box]; rfl, h.base, h.far⟩
theorem DvJ.setP {w w1 : World} {rb g kb : Nat} {l : List Wd} {i a b c : Nat} {nm : List UInt8} {vc vp : Value} (h : DvJ w rb g kb l i a b c nm vc vp w1) (hgk : g ≠ kb) (v : Value) : DvJ w rb g kb l i a b c nm vc v (w1.setCell ⟨kb, 2, none⟩ v) :=
  ⟨h.rd.far h.far hgk v, ⟨h.on.os, h.on.tape, h.on.output, by simpa using h.on.size, fun k hk hn => (Below.heap_setCell _ _ _ _ (fun e => by have e' : k = kb := e; have := h.base; omega)).trans (h.on.block k hk hn)⟩, by rw [block_set (o := 2) _ h.box]; rfl, h.base, h.far⟩

/-- The device was put behind the others. -/
theorem dev_put {B : Nat} {w W w3 : World} {pb rb g kb g3 c3 N i a b c : Nat} {l : List Wd} {x0 x2 x3 vd vc vp : Value} {nm : List UInt8} {ds : List (To.Dv × Value × Value)} {ob : Obj} {rcs : Array Value} {rfr : Nat × Nat} (hrb : w.heap[rb]? = some (.cells rcs 72 rfr)) (J : DvJ w rb g kb l i a b c nm vc vp W) (hp : w.heap[pb]? = some (.cells #[x0, vd, x2, x3] 68 (0, 0))) (hpr : pb ≠ rb) (hgp : g ≠ pb) (hB : B ≤ w.heap.size) (hD : DvO B w vd ds) (hN : N = ds.length) (hdg : vd.ownBlock ≠ some g)
    (ho : w3.ownsRow B 80 3 (.slice (some ⟨g3, 0, none⟩) (N + 1) c3) (N + 1) (flatD ds ++ [.string (tx nm), vc, vp])) (h3 : (W.alloc ob).drew.grownBy w3 vd.ownBlock) (hat : vd.ownBlock = some g3 ∨ g3 = W.heap.size + 1) :
    Gr3D w (w3.setCell ⟨pb, 1, none⟩ (.slice (some ⟨g3, 0, none⟩) (N + 1) c3)) rb pb vd ∧ (w3.setCell ⟨pb, 1, none⟩ (.slice (some ⟨g3, 0, none⟩) (N + 1) c3)).heap[pb]? = some (.cells #[x0, .slice (some ⟨g3, 0, none⟩) (N + 1) c3, x2, x3] 68 (0, 0)) ∧ (∀ cs ps, W.ownsRow w.heap.size 9 1 vc cs.length (svs cs) → W.ownsRow w.heap.size 9 1 vp ps.length (svs ps) → DvO B (w3.setCell ⟨pb, 1, none⟩ (.slice (some ⟨g3, 0, none⟩) (N + 1) c3)) (.slice (some ⟨g3, 0, none⟩) (N + 1) c3) (ds ++ [(⟨nm, cs, ps⟩, vc, vp)])) ∧ RfAt (w3.setCell ⟨pb, 1, none⟩ (.slice (some ⟨g3, 0, none⟩) (N + 1) c3)) rb g l i a b c := by
  have hWs := J.on.size
  have hs3 := h3.size
  simp only [World.drew, World.size_alloc] at hs3
  have hpl := lt_of_block hp
  have hDr : vd.ownBlock ≠ some rb := own_notJ hD.row hrb Tryz.devNeR
  have hdp : vd.ownBlock ≠ some pb := own_notJ hD.row hp Tryz.devNeP
  have hk3 : ∀ k, k < W.heap.size → vd.ownBlock ≠ some k → w3.heap[k]? = W.heap[k]? := fun k hk hn => by
    rw [h3.block k (by show k < (W.alloc ob).heap.size; simp only [World.size_alloc]; omega) (fun e => hn e.symm)]
    exact Below.heap_alloc _ _ _ hk
  have hgp3 : g3 ≠ pb := by
    rcases hat with h | h
    · intro e; rw [e] at h; exact hdp h
    · omega
  have hpW : W.heap[pb]? = some (.cells #[x0, vd, x2, x3] 68 (0, 0)) := (J.on.block pb hpl (fun e => hpr (by injection e))).trans hp
  have hV : ∀ k, k < W.heap.size → k ≠ pb → vd.ownBlock ≠ some k → (w3.setCell ⟨pb, 1, none⟩ (.slice (some ⟨g3, 0, none⟩) (N + 1) c3)).heap[k]? = W.heap[k]? := fun k h1 h2 h4 => by
    rw [Below.heap_setCell _ _ _ _ h2, hk3 k h1 h4]
  have hstr : ∀ (u : Value) (n : Nat) (xs : List Value) (C : Nat), W.ownsRow C 9 1 u n xs → (∀ k, u.ownBlock = some k → vd.ownBlock ≠ some k) → (w3.setCell ⟨pb, 1, none⟩ (.slice (some ⟨g3, 0, none⟩) (N + 1) c3)).ownsRow C 9 1 u n xs := fun u n xs C hu hne =>
    own_sameJ hu fun k q => hV k (hu.lt k q).2 (fun e => own_notJ hu hpW Tryz.strNeP (by rw [q]; exact congrArg some e)) (hne k q)
  refine ⟨⟨h3.os.trans J.on.os, h3.tape.trans J.on.tape, h3.output.trans J.on.output, by simp; omega, fun k hk h1 h2 h4 => ?_⟩, ?_, fun cs ps hc hq => ⟨?_, fun q hq' => ?_, fun q hq' => ?_⟩, ?_⟩
  · rw [hV k (by omega) h2 h4, J.on.block k hk (fun e => h1 (by injection e))]
  · exact block_set (o := 1) _ ((hk3 pb (by omega) hdp).trans hpW)
  · rw [flatD_snoc, List.length_append, List.length_singleton, ← hN]
    exact own_sameJ ho fun k hk => Below.heap_setCell _ _ _ _ (fun e => hgp3 (by
      have : some g3 = some k := hk
      injection this with this
      rw [this]; exact e))
  · rcases List.mem_append.1 hq' with h | h
    · have hw := hD.cls q h
      have hne : q.2.1.ownBlock ≠ some rb := own_notJ hw hrb Tryz.strNeR
      refine hstr _ _ _ _ (own_sameJ hw fun k r => J.on.block k (hw.lt k r).2 (fun e => hne (by rw [r]; exact e))) fun k r => own_apartJ hw hD.row Tryz.devNeJ r
    · rw [List.mem_singleton.1 h]
      exact own_baseJ (hstr _ _ _ _ hc fun k r e => by have h1 := (hc.lt k r).1; have h2 := (hD.row.lt k e).2; omega) hB
  · rcases List.mem_append.1 hq' with h | h
    · have hw := hD.prt q h
      have hne : q.2.2.ownBlock ≠ some rb := own_notJ hw hrb Tryz.strNeR
      refine hstr _ _ _ _ (own_sameJ hw fun k r => J.on.block k (hw.lt k r).2 (fun e => hne (by rw [r]; exact e))) fun k r => own_apartJ hw hD.row Tryz.devNeJ r
    · rw [List.mem_singleton.1 h]
      exact own_baseJ (hstr _ _ _ _ hq fun k r e => by have h1 := (hq.lt k r).1; have h2 := (hD.row.lt k e).2; omega) hB
  · have h5 : RfAt (W.alloc ob).drew rb g l i a b c := (J.rd.alloc ob).on ⟨rfl, rfl, rfl, Nat.le_refl _, fun _ _ => rfl⟩
    exact (h5.row h3 hDr hdg).far hpr hgp _

set_option maxRecDepth 20000 in
set_option maxHeartbeats 2000000 in
theorem Rdevice11_any {B : Nat} {w : World} {pb rb g : Nat} {l : List Wd} {a b : Nat} {x0 x2 x3 : Value} {dv : Option Addr} {N dc : Nat} {ds : List (To.Dv × Value × Value)} (h : RfAt w rb g l 1 a b 0) (hp : w.heap[pb]? = some (.cells #[x0, .slice dv N dc, x2, x3] 68 (0, 0))) (hpr : pb ≠ rb) (hgp : g ≠ pb) (hB : B ≤ w.heap.size) (hD : DvO B w (.slice dv N dc) ds) (hN : N = ds.length) (hdg : (Value.slice dv N dc).ownBlock ≠ some g) (hdn : ds.length ≤ 256) :
    Calls Tryz.prog 32 #[.pointer (some ⟨pb, 0, none⟩), .pointer (some ⟨rb, 0, none⟩)] w fun en w' => DvD B w pb rb g l a b x0 (.slice dv N dc) x2 x3 ds (To.dev (atW l 0) (Ru.endW l) (ds.map (·.1.name)) (l.drop 1)) en w' := by
  obtain ⟨i0, hi, hz0, hz1, hz2⟩ := info_parts Tryz.infoDevJ
  have HI := hid hi
  have HZ0 := hid hz0
  have HZ1 := hid hz1
  have HZ2 := hid hz2
  clear hi hz0 hz1 hz2
  have HDO := hid (fun (W : World) (hg : w.grownBy W (some rb)) => (by obtain ⟨cap, hc⟩ := h.blk; exact dvo_kept hD hc hg : DvO B W (.slice dv N dc) ds))
  have HPB := hid (fun (W : World) (hg : w.grownBy W (some rb)) => (hg.block pb (lt_of_block hp) (fun e => hpr (by injection e))).trans hp)
  have HRB := hid (show ∃ cs fr, w.heap[rb]? = some (.cells cs 72 fr) from by obtain ⟨cap, hc⟩ := h.blk; exact ⟨_, _, hc⟩)
  have HN := hid (Rname_any h)
  have hys := atW_short h.ok 1
  have hll := h.ok.len
  have hpl := lt_of_block hp
  have hgl := h.ok.at_.1
  have hrl := h.lt
  obtain ⟨y, hy⟩ : ∃ y, y = atW l 1 := ⟨_, rfl⟩
  have HY := hid hy
  have HNN := hid hN
  obtain ⟨n, hn⟩ : ∃ n, n = ds.length := ⟨_, rfl⟩
  have hn9 : n ≤ 256 := by omega
  have hN9 : N ≤ 256 := by omega
  have HDV : Hid (To.dev (atW l 0) (Ru.endW l) (ds.map (·.1.name)) (l.drop 1) = if Wo.nameB y.1 = false then .error (Ru.ft y 31) else if y.1 ∈ ds.map (·.1.name) then .error (Ru.ft y 111) else dvOf y.1 (dvR4 (atW l 0) N (dvR3 (Ru.endW l) (dvR2 (Ru.endW l) (dvR1 (Ru.endW l) (l.drop 2)))))) := hid (by
    unfold To.dev
    rw [hy, List.tail_drop, dvA_eq, List.length_map, ← hN])
  obtain ⟨R0, hR0⟩ : ∃ R, R = To.dev (atW l 0) (Ru.endW l) (ds.map (·.1.name)) (l.drop 1) := ⟨_, rfl⟩
  rw [← hR0] at HDV ⊢
  rw [← hy] at hys
  unfold NameD at HN
  rw [← hy] at HN
  have HER := hid (fun (f : Ru.Ft) (j : Nat) (W : World) (hr : R0 = .error f) (hf : f.2.2 ≠ 0) (hR : RfAt W rb g l j f.1 f.2.1 f.2.2) (hg : w.grownBy W (some rb)) => (show DvD B w pb rb g l a b x0 (.slice dv N dc) x2 x3 ds R0 (.returned (.tuple #[])) W from ⟨rfl, ⟨hg.os, hg.tape, hg.output, hg.size, fun k hk h1 _ _ => hg.block k hk (fun e => h1 (by injection e))⟩, .inr ⟨f, j, hr, hf, hR⟩⟩))
  clear h hp hD hy hR0 hN hdn
  go_enter Tryz.func32, Tryz.ntmps32
  go_wp2_with fail
  refine HN.out.mono ?_
  rintro en w1 ⟨rfl, hg1, ⟨hnb, hr1⟩ | ⟨hnb, hr1⟩⟩
  · have HR1 := hid hr1
    have HG1 := hid hg1
    obtain ⟨kb, hkb⟩ : ∃ kb, kb = w1.heap.size := ⟨_, rfl⟩
    obtain ⟨W1, hW1⟩ : ∃ W1, W1 = w1.alloc (dob y.1 (.slice none 0 0) (.slice none 0 0)) := ⟨_, rfl⟩
    have J1 := hid (show DvJ w rb g kb l 1 a b 0 y.1 (.slice none 0 0) (.slice none 0 0) W1 from by
      rw [hW1]
      exact ⟨hr1.alloc _, grownBelow hg1 ((Below.refl _ _).alloc (Nat.le_refl _) _), by rw [hkb]; exact new_0 _ _, by rw [hkb]; exact hg1.size, by have := hr1.lt; omega⟩)
    have HNB := hid hnb
    obtain ⟨c1, c2, c3, c4, f1, f2, f3, f4⟩ := J1.out.rd.cells
    have b0 : W1.cell? ⟨kb, 0, none⟩ = some (.string (tx y.1)) := by rw [cell_at J1.out.box]; rfl
    have HKN := hid (Rknown_any (s := y.1) (HPB.out W1 J1.out.on) (HDO.out W1 J1.out.on).lies (Nat.le_trans (by rw [← hn]; exact hn9) (by decide)))
    clear hg1 hr1 hnb hn
    rw [hW1] at c1 c2 c3 c4 f1 f2 f3 f4
    rw [hW1, hkb] at b0
    go_wp2_with fail
    rw [← hkb, ← hW1]
    rw [← hW1] at c1 c2 c3 c4 f1 f2 f3 f4
    clear b0 hW1 hkb
    cases hk : plJ y.1 (ds.map (·.1.name)) with
    | some k =>
      have HE1 := hid (show R0 = .error (Ru.ft y 111) from by
        rw [HDV.out, if_neg (by rw [HNB.out]; simp), if_pos (List.mem_of_getElem? (plJ_some hk))])
      rw [show plZ y.1 (ds.map (·.1.name)) = (k : Int) by unfold plZ; rw [hk]] at HKN
      have HFL := hid (Fail_any J1.out.rd 111)
      rw [← HY.out] at HFL
      have hk0 : (0 : Int) ≤ (k : Int) := by omega
      clear hk
      refine HKN.out.mono ?_
      rintro en w2 ⟨rfl, hw2⟩
      obtain rfl : W1 = w2 := hw2.symm
      clear c1 c2 c3 c4 f1 f2 f3 f4
      have b0 : W1.cell? ⟨kb, 0, none⟩ = some (.string (tx y.1)) := by rw [cell_at J1.out.box]; rfl
      go_wp2_with fail
      refine HFL.out.mono ?_
      rintro en w3 ⟨rfl, hr3, hg3⟩
      have HF := hid (HER.out _ 1 w3 HE1.out (by show (111 : Nat) ≠ 0; decide) hr3 (grownTwo J1.out.on hg3))
      clear hr3 hg3
      go_wp2
      exact bodyPost_ret (v := .tuple #[]) (by simp [results, Tryz.results32, go_sem]) rfl HF.out
    | none =>
      have HE1 := hid (show R0 = dvOf y.1 (dvR4 (atW l 0) N (dvR3 (Ru.endW l) (dvR2 (Ru.endW l) (dvR1 (Ru.endW l) (l.drop 2))))) from by
        rw [HDV.out, if_neg (by rw [HNB.out]; simp), if_neg (fun q => by rw [plJ_idx, if_pos q] at hk; cases hk)])
      rw [show plZ y.1 (ds.map (·.1.name)) = -1 by unfold plZ; rw [hk]] at HKN
      have hll1 : 1 < l.length := atW_lt HR1.out.le (by rw [← HY.out]; intro q; have := HNB.out; rw [q] at this; exact absurd this (by decide))
      obtain ⟨V, hVV⟩ : ∃ V, V = W1.setCell ⟨rb, 1, none⟩ (.int .i64 2) := ⟨_, rfl⟩
      have J2 := hid (show DvJ w rb g kb l 2 a b 0 y.1 (.slice none 0 0) (.slice none 0 0) V from by rw [hVV]; exact J1.out.step 2 hll1)
      have HW := hid (Word_any J2.out.rd)
      obtain ⟨z, hz⟩ : ∃ z, z = atW l 2 := ⟨_, rfl⟩
      have HZ := hid hz
      rw [← hz] at HW
      have hwt : ∀ w : World, (Instr.field 74 (wv z) 0).run Tryz.prog w = .ok (.string (tx z.1)) w := fun w => wv_text z w
      clear hk hz
      refine HKN.out.mono ?_
      rintro en w2 ⟨rfl, hw2⟩
      obtain rfl : W1 = w2 := hw2.symm
      go_wp2_with fail
      rw [← hVV]
      clear c1 c2 c3 c4 f1 f2 f3 f4 hVV
      refine HW.out.mono ?_
      rintro en w3 ⟨rfl, hb3⟩
      have J3 := hid (J2.out.on' (J2.out.rd.on hb3) (grownBelow (growRefl _ _) hb3))
      clear hb3 J1 J2 HW HKN HN HR1 HG1
      have HGK := hid (show g ≠ kb from by have := J3.out.base; omega)
      obtain ⟨b1, hb1⟩ : ∃ x, (z.1 == [99, 108, 97, 115, 115]) = x := ⟨_, rfl⟩
      have HB1 := hid hb1
      have hll3 := hid (fun q : z.1 = To.classT => atW_lt J3.out.rd.le (by rw [← HZ.out, q]; decide))
      have HR2 := hid (show dvR1 (Ru.endW l) (l.drop 2) = match (if z.1 = To.classT then To.lst (Ru.endW l) 16 (l.drop 3) [] else .ok ([], l.drop 2)) with | .error f => .error f | .ok (cs, r) => .ok ((cs, []), r) from by
        unfold dvR1 To.opt
        rw [List.tail_drop, HZ.out])
      obtain ⟨c1, c2, c3, c4, f1, f2, f3, f4⟩ := J3.out.rd.cells
      go_upto_if 30 with fail
      clear hb1
      go_cut [] (fun wx => Hid (DvT w rb g kb l a b y.1 (dvR1 (Ru.endW l) (l.drop 2)) wx))
      case first =>
        cases b1 with
        | true =>
          have hc : z.1 = To.classT := by have := HB1.out; exact eq_of_beq this
          have h3l := hll3.out hc
          obtain ⟨V, hVV⟩ : ∃ V, V = w3.setCell ⟨rb, 1, none⟩ (.int .i64 3) := ⟨_, rfl⟩
          have J4 := hid (show DvJ w rb g kb l 3 a b 0 y.1 (.slice none 0 0) (.slice none 0 0) V from by rw [hVV]; exact J3.out.step 3 h3l)
          have HL := hid (Rlist_any (most := 16) J4.out.rd (by decide))
          have HR3 := hid (show dvR1 (Ru.endW l) (l.drop 2) = match To.lst (Ru.endW l) 16 (l.drop 3) [] with | .error f => .error f | .ok (cs, r) => .ok ((cs, []), r) from by rw [HR2.out, if_pos hc])
          clear hc
          go_wp2_with fail
          rw [← hVV]
          clear hVV c1 c2 c3 c4 f1 f2 f3 f4
          refine HL.out.mono ?_
          rintro en w5 ⟨ao, m, vk, rfl, hg5, ⟨cs, j, he, hn5, ho5, hr5⟩ | ⟨f, j, he, hf, hr5⟩⟩
          · have J5 := hid (J4.out.on' hr5 hg5)
            have q1 : w5.cell? ⟨kb, 1, none⟩ = some (.slice none 0 0) := by rw [cell_at J5.out.box]; rfl
            have q2 : w5.frozen? ⟨kb, 1, none⟩ = false := free_of J5.out.box
            have HT := hid (show DvT w rb g kb l a b y.1 (dvR1 (Ru.endW l) (l.drop 2)) (w5.setCell ⟨kb, 1, none⟩ (.slice ao m vk)) from ⟨ao, m, vk, none, 0, 0, j, a, b, 0, J5.out.setC HGK.out _, .inl ⟨cs, [], by rw [HR3.out, he], rfl, rfl, rfl, hn5, rfl, own_baseJ (own_sameJ ho5 fun k q => Below.heap_setCell _ _ _ _ (fun e => own_notJ ho5 J5.out.box Tryz.strNeD (by rw [q]; exact congrArg some e))) J4.out.on.size, World.ownsRow_nil _ _ _ _⟩⟩)
            clear he hn5 ho5 hr5 hg5
            go_wp2
            go_meet
            exact hid HT.out
          · have J5 := hid (J4.out.on' hr5 hg5)
            have q1 : w5.cell? ⟨kb, 1, none⟩ = some (.slice none 0 0) := by rw [cell_at J5.out.box]; rfl
            have q2 : w5.frozen? ⟨kb, 1, none⟩ = false := free_of J5.out.box
            have HT := hid (show DvT w rb g kb l a b y.1 (dvR1 (Ru.endW l) (l.drop 2)) (w5.setCell ⟨kb, 1, none⟩ (.slice ao m vk)) from ⟨ao, m, vk, none, 0, 0, j, f.1, f.2.1, f.2.2, J5.out.setC HGK.out _, .inr ⟨f, by rw [HR3.out, he], hf, rfl⟩⟩)
            clear he hf hr5 hg5
            go_wp2
            go_meet
            exact hid HT.out
        | false =>
          have hc : ¬ z.1 = To.classT := by
            intro q
            have := HB1.out
            rw [q] at this
            exact absurd this (by decide)
          have HT := hid (show DvT w rb g kb l a b y.1 (dvR1 (Ru.endW l) (l.drop 2)) w3 from ⟨none, 0, 0, none, 0, 0, 2, a, b, 0, J3.out, .inl ⟨[], [], by rw [HR2.out, if_neg hc], rfl, rfl, rfl, rfl, rfl, World.ownsRow_nil _ _ _ _, World.ownsRow_nil _ _ _ _⟩⟩)
          clear hc
          go_wp2
          go_meet
          exact hid HT.out
      case rest =>
        have HT1 := hcut
        clear hcut J3 HR2 HB1 hll3 hwt HZ c1 c2 c3 c4 f1 f2 f3 f4
        obtain ⟨R1, hR1⟩ : ∃ R, R = dvR1 (Ru.endW l) (l.drop 2) := ⟨_, rfl⟩
        have HPS := hid (fun (cs ps : List (List UInt8)) (r : List Wd) (q : R1 = .ok ((cs, ps), r)) => dvR1_ps (by rw [← hR1]; exact q))
        rw [← hR1] at HT1 HE1
        clear hR1
        go_upto_region 8 with fail
        go_cut [51] (fun x51 wx => ∃ b2 : Bool, x51 = .bool b2 ∧ Hid (DvP w rb g kb l a b y.1 R1 b2 wx))
        case first =>
          obtain ⟨va, m, vk, pa, pm, pk, i, a', b', c, J, ⟨cs, ps, hR, hc, ha, hb, hm, hpm, oc, op⟩ | ⟨f, hR, hc, hf⟩⟩ := HT1.out
          · subst hc; subst ha; subst hb
            have hps := HPS.out _ _ _ hR
            subst hps
            have JJ := hid J
            have HW := hid (Word_any J.rd)
            obtain ⟨z, hz⟩ : ∃ z, z = atW l i := ⟨_, rfl⟩
            have HZ := hid hz
            rw [← hz] at HW
            have hwt : ∀ w : World, (Instr.field 74 (wv z) 0).run Tryz.prog w = .ok (.string (tx z.1)) w := fun w => wv_text z w
            obtain ⟨b2, hb2⟩ : ∃ x, (z.1 == [112, 111, 114, 116]) = x := ⟨_, rfl⟩
            have HB2 := hid hb2
            have HX := hid (show R1 = .ok ((cs, []), l.drop i) ∧ m = cs.length ∧ pm = ([] : List (List UInt8)).length ∧ wc.ownsRow w.heap.size 9 1 (.slice va m vk) m (svs cs) ∧ wc.ownsRow w.heap.size 9 1 (.slice pa pm pk) pm (svs []) from ⟨hR, hm, hpm, oc, op⟩)
            obtain ⟨c1, c2, c3, c4, f1, f2, f3, f4⟩ := J.rd.cells
            clear hR hm hpm oc op J hz
            go_wp2_with fail
            refine HW.out.mono ?_
            rintro en w6 ⟨rfl, hb6⟩
            have HP := hid (show DvP w rb g kb l a' b' y.1 R1 b2 w6 from by
              obtain ⟨hR, hm, hpm, oc, op⟩ := HX.out
              have J6 := JJ.out.on' (JJ.out.rd.on hb6) (grownBelow (growRefl _ _) hb6)
              have oc6 := own_sameJ oc fun k q => hb6.block k (oc.lt k q).2
              have op6 := own_sameJ op fun k q => hb6.block k (op.lt k q).2
              cases hq : b2 with
              | true =>
                have e : z.1 = To.portT := eq_of_beq (HB2.out.trans hq)
                exact .inl ⟨rfl, va, m, vk, pa, pm, pk, i, cs, J6, hR, by rw [← HZ.out]; exact e, atW_lt J6.rd.le (by rw [← HZ.out, e]; decide), hm, oc6⟩
              | false =>
                have e : ¬ z.1 = To.portT := fun q => by have := HB2.out; rw [q, hq] at this; exact absurd this (by decide)
                refine .inr ⟨rfl, va, m, vk, pa, pm, pk, i, a', b', 0, J6, .inl ⟨cs, [], ?_, rfl, rfl, rfl, hm, hpm, oc6, op6⟩⟩
                rw [hR, dvR2_ok, ← HZ.out, if_neg e])
            clear hb6 c1 c2 c3 c4 f1 f2 f3 f4
            go_wp2_with fail
            go_meet
            exact ⟨b2, rfl, HP⟩
          · have hcn : (c == 0) = false := by rw [beq_eq_false_iff_ne]; exact hc
            have hcI : ((c : Int) == 0) = false := by rw [beq_eq_false_iff_ne]; omega
            obtain ⟨c1, c2, c3, c4, f1, f2, f3, f4⟩ := J.rd.cells
            have HP := hid (show DvP w rb g kb l a b y.1 R1 false wc from .inr ⟨rfl, va, m, vk, pa, pm, pk, i, a', b', c, J, .inr ⟨f, by rw [hR]; rfl, hc, hf⟩⟩)
            clear hR hf J hc
            go_wp2_with fail
            go_meet
            exact ⟨false, rfl, HP⟩
        case rest =>
          obtain ⟨b2, rfl, HP⟩ := hcut
          clear HT1 HPS
          obtain ⟨R2, hR2⟩ : ∃ R, R = dvR2 (Ru.endW l) R1 := ⟨_, rfl⟩
          have HR2 := hid hR2
          rw [← hR2] at HE1
          unfold DvP at HP
          rw [← hR2] at HP
          clear hR2
          go_upto_if 51 with fail
          go_cut [] (fun wx => Hid (DvT w rb g kb l a b y.1 R2 wx))
          case first =>
            cases b2 with
            | true =>
              obtain ⟨-, va, m, vk, pa, pm, pk, i, cs, J, hR, hz, hil, hm, oc⟩ := HP.out.resolve_right (fun q => by cases q.1)
              have HRR := hid (show R2 = match To.lst (Ru.endW l) 64 (l.drop (i + 1)) [] with | .error f => .error f | .ok (ps, r') => .ok ((cs, ps), r') from by
                rw [HR2.out, hR, dvR2_ok, if_pos hz])
              obtain ⟨c1, c2, c3, c4, f1, f2, f3, f4⟩ := J.rd.cells
              have hiI : (i : Int) ≤ 1048575 := by omega
              obtain ⟨V, hVV⟩ : ∃ V, V = wc.setCell ⟨rb, 1, none⟩ (.int .i64 ((i : Int) + 1)) := ⟨_, rfl⟩
              have J4 := hid (show DvJ w rb g kb l (i + 1) a b 0 y.1 (.slice va m vk) (.slice pa pm pk) V from by
                have := J.step (i + 1) hil
                rwa [show ((i + 1 : Nat) : Int) = (i : Int) + 1 by omega, ← hVV] at this)
              have HL := hid (Rlist_any (most := 64) J4.out.rd (by decide))
              have HOC := hid (show V.ownsRow w.heap.size 9 1 (.slice va m vk) m (svs cs) from by
                obtain ⟨cap, hblk⟩ := J.rd.blk
                rw [hVV]
                exact own_sameJ oc fun k q => Below.heap_setCell _ _ _ _ (fun e => own_notJ oc hblk Tryz.strNeR (by rw [q]; exact congrArg some e)))
              have HM := hid hm
              clear hR hz hil hm oc J
              go_wp2_with fail
              rw [← hVV]
              clear hVV c1 c2 c3 c4 f1 f2 f3 f4
              refine HL.out.mono ?_
              rintro en w5 ⟨ao, p, pk2, rfl, hg5, ⟨ps, j, he, hn5, ho5, hr5⟩ | ⟨f, j, he, hf, hr5⟩⟩
              · have J5 := hid (J4.out.on' hr5 hg5)
                have q1 : w5.cell? ⟨kb, 2, none⟩ = some (.slice pa pm pk) := by rw [cell_at J5.out.box]; rfl
                have q2 : w5.frozen? ⟨kb, 2, none⟩ = false := free_of J5.out.box
                have HT := hid (show DvT w rb g kb l a b y.1 R2 (w5.setCell ⟨kb, 2, none⟩ (.slice ao p pk2)) from by
                  have hrbV : ∃ cs fr, V.heap[rb]? = some (.cells cs 72 fr) := by obtain ⟨cap, hblk⟩ := J4.out.rd.blk; exact ⟨_, _, hblk⟩
                  obtain ⟨rcs, rfr, hrb⟩ := hrbV
                  have oc5 : w5.ownsRow w.heap.size 9 1 (.slice va m vk) m (svs cs) := own_sameJ HOC.out fun k q => hg5.block k (HOC.out.lt k q).2 (fun e => own_notJ HOC.out hrb Tryz.strNeR (by rw [q]; exact e))
                  refine ⟨va, m, vk, ao, p, pk2, j, a, b, 0, J5.out.setP HGK.out _, .inl ⟨cs, ps, by rw [HRR.out, he], rfl, rfl, rfl, HM.out, hn5, own_sameJ oc5 fun k q => Below.heap_setCell _ _ _ _ (fun e => own_notJ oc5 J5.out.box Tryz.strNeD (by rw [q]; exact congrArg some e)), own_baseJ (own_sameJ ho5 fun k q => Below.heap_setCell _ _ _ _ (fun e => own_notJ ho5 J5.out.box Tryz.strNeD (by rw [q]; exact congrArg some e))) J4.out.on.size⟩⟩)
                clear he hn5 ho5 hr5 hg5
                go_wp2
                go_meet
                exact hid HT.out
              · have J5 := hid (J4.out.on' hr5 hg5)
                have q1 : w5.cell? ⟨kb, 2, none⟩ = some (.slice pa pm pk) := by rw [cell_at J5.out.box]; rfl
                have q2 : w5.frozen? ⟨kb, 2, none⟩ = false := free_of J5.out.box
                have HT := hid (show DvT w rb g kb l a b y.1 R2 (w5.setCell ⟨kb, 2, none⟩ (.slice ao p pk2)) from ⟨va, m, vk, ao, p, pk2, j, f.1, f.2.1, f.2.2, J5.out.setP HGK.out _, .inr ⟨f, by rw [HRR.out, he], hf, rfl⟩⟩)
                clear he hf hr5 hg5
                go_wp2
                go_meet
                exact hid HT.out
            | false =>
              have HT := hid (HP.out.resolve_left (fun q => by cases q.1)).2
              go_wp2
              go_meet
              exact hid HT.out
          case rest =>
            have HT2 := hcut
            clear hcut HP HR2
            obtain ⟨R3, hR3⟩ : ∃ R, R = dvR3 (Ru.endW l) R2 := ⟨_, rfl⟩
            have HR3 := hid hR3
            rw [← hR3] at HE1
            clear hR3
            go_upto_region 11 with fail
            go_cut [78] (fun x78 wx => ∃ b3 : Bool, x78 = .bool b3 ∧ Hid (DvQ w rb g kb l a b y.1 R3 (fun i => Ru.ft (atW l i) 110) b3 wx))
            case first =>
              obtain ⟨va, m, vk, pa, pm, pk, i, a', b', c, J, ⟨cs, ps, hR, hc, ha, hb, hm, hpm, oc, op⟩ | ⟨f, hR, hc, hf⟩⟩ := HT2.out
              · subst hc; subst ha; subst hb
                obtain ⟨c1, c2, c3, c4, f1, f2, f3, f4⟩ := J.rd.cells
                obtain ⟨cap, hblk⟩ := J.rd.blk
                have v0 : wc.cell? ⟨rb, 0, none⟩ = some (.slice (some ⟨g, 0, none⟩) l.length cap) := by rw [cell_at hblk]; rfl
                obtain ⟨L, hL⟩ : ∃ L, L = l.length := ⟨_, rfl⟩
                rw [← hL] at v0
                obtain ⟨b3, hb3⟩ : ∃ x, decide (i < L) = x := ⟨_, rfl⟩
                have hbI : decide ((i : Int) < (L : Int)) = b3 := by rw [← hb3, decide_eq_decide]; omega
                have HP := hid (fun (nq : Nat) => (show DvQ w rb g kb l a' b' y.1 R3 (fun i => Ru.ft (atW l i) 110) b3 (wc.drewN nq) from by
                  have hbq : Below wc.heap.size wc (wc.drewN nq) := ⟨rfl, rfl, rfl, Nat.le_refl _, fun _ _ => rfl⟩
                  have J6 := J.on' (J.rd.on hbq) (grownBelow (growRefl _ _) hbq)
                  cases hq : b3 with
                  | true =>
                    have hlt : i < l.length := by rw [hq] at hb3; have := of_decide_eq_true hb3; omega
                    exact .inl ⟨rfl, va, m, vk, pa, pm, pk, i, J6, by rw [HR3.out, hR, dvR3_ok, if_pos hlt]⟩
                  | false =>
                    have hlt : ¬ i < l.length := by rw [hq] at hb3; have := of_decide_eq_false hb3; omega
                    exact .inr ⟨rfl, va, m, vk, pa, pm, pk, i, a', b', 0, J6, .inl ⟨cs, ps, by rw [HR3.out, hR, dvR3_ok, if_neg hlt], rfl, rfl, rfl, hm, hpm, own_sameJ oc fun k q => hbq.block k (oc.lt k q).2, own_sameJ op fun k q => hbq.block k (op.lt k q).2⟩⟩))
                clear hR hm hpm oc op J hblk hL
                go_wp2_with fail
                go_quiet (fail)
                go_wp2_with fail
                go_meet
                exact ⟨b3, rfl, hid (HP.out _)⟩
              · have hcn : (c == 0) = false := by rw [beq_eq_false_iff_ne]; exact hc
                have hcI : ((c : Int) == 0) = false := by rw [beq_eq_false_iff_ne]; omega
                obtain ⟨c1, c2, c3, c4, f1, f2, f3, f4⟩ := J.rd.cells
                have HP := hid (fun (nq : Nat) => (show DvQ w rb g kb l a b y.1 R3 (fun i => Ru.ft (atW l i) 110) false (wc.drewN nq) from by
                  have hbq : Below wc.heap.size wc (wc.drewN nq) := ⟨rfl, rfl, rfl, Nat.le_refl _, fun _ _ => rfl⟩
                  have J6 := J.on' (J.rd.on hbq) (grownBelow (growRefl _ _) hbq)
                  exact .inr ⟨rfl, va, m, vk, pa, pm, pk, i, a', b', c, J6, .inr ⟨f, by rw [HR3.out, hR]; rfl, hc, hf⟩⟩))
                clear hR hf J hc
                go_wp2_with fail
                go_quiet (fail)
                go_wp2_with fail
                go_meet
                exact ⟨false, rfl, hid (HP.out _)⟩
            case rest =>
              obtain ⟨b3, rfl, HP⟩ := hcut
              clear HT2 HR3
              go_upto_if 78 with fail
              go_cut [] (fun wx => Hid (DvT w rb g kb l a b y.1 R3 wx))
              case first =>
                cases b3 with
                | true =>
                  obtain ⟨-, va, m, vk, pa, pm, pk, i, J, hR⟩ := HP.out.resolve_right (fun q => by cases q.1)
                  have HFL := hid (Fail_any J.rd 110)
                  have HT := hid (fun (w6 : World) (hr : RfAt w6 rb g l i (atW l i).2.1 (atW l i).2.2 110) (hg : wc.grownBy w6 (some rb)) => (show DvT w rb g kb l a b y.1 R3 w6 from ⟨va, m, vk, pa, pm, pk, i, _, _, _, J.on' hr hg, .inr ⟨_, hR, by decide, rfl⟩⟩))
                  clear hR J
                  go_wp2_with fail
                  refine HFL.out.mono ?_
                  rintro en w6 ⟨rfl, hr6, hg6⟩
                  have HT6 := hid (HT.out w6 hr6 hg6)
                  clear hr6 hg6
                  go_wp2
                  go_meet
                  exact hid HT6.out
                | false =>
                  have HT := hid (HP.out.resolve_left (fun q => by cases q.1)).2
                  go_wp2
                  go_meet
                  exact hid HT.out
              case rest =>
                have HT3 := hcut
                clear hcut HP
                obtain ⟨R4, hR4⟩ : ∃ R, R = dvR4 (atW l 0) N R3 := ⟨_, rfl⟩
                have HR4 := hid hR4
                rw [← hR4] at HE1
                clear hR4
                go_upto_region 13 with fail
                go_cut [94] (fun x94 wx => ∃ b4 : Bool, x94 = .bool b4 ∧ Hid (DvQ w rb g kb l a b y.1 R4 (fun _ => Ru.ft (atW l 0) 3) b4 wx))
                case first =>
                  obtain ⟨va, m, vk, pa, pm, pk, i, a', b', c, J, ⟨cs, ps, hR, hc, ha, hb, hm, hpm, oc, op⟩ | ⟨f, hR, hc, hf⟩⟩ := HT3.out
                  · subst hc; subst ha; subst hb
                    obtain ⟨c1, c2, c3, c4, f1, f2, f3, f4⟩ := J.rd.cells
                    have hpw := HPB.out wc J.on
                    have p1 : wc.cell? ⟨pb, 1, none⟩ = some (.slice dv N dc) := by rw [cell_at hpw]; rfl
                    obtain ⟨b4, hb4⟩ : ∃ x, decide (256 ≤ N) = x := ⟨_, rfl⟩
                    have hbI : decide ((256 : Int) ≤ (N : Int)) = b4 := by rw [← hb4, decide_eq_decide]; omega
                    have HP := hid (show DvQ w rb g kb l a' b' y.1 R4 (fun _ => Ru.ft (atW l 0) 3) b4 wc from by
                      cases hq : b4 with
                      | true =>
                        have hlt : 256 ≤ N := by rw [hq] at hb4; exact of_decide_eq_true hb4
                        exact .inl ⟨rfl, va, m, vk, pa, pm, pk, i, J, by rw [HR4.out, hR]; exact if_pos hlt⟩
                      | false =>
                        have hlt : ¬ 256 ≤ N := by rw [hq] at hb4; exact of_decide_eq_false hb4
                        exact .inr ⟨rfl, va, m, vk, pa, pm, pk, i, a', b', 0, J, .inl ⟨cs, ps, by rw [HR4.out, hR]; exact if_neg hlt, rfl, rfl, rfl, hm, hpm, oc, op⟩⟩)
                    clear hR hm hpm oc op J hpw
                    go_wp2_with fail
                    go_meet
                    exact ⟨b4, rfl, HP⟩
                  · have hcn : (c == 0) = false := by rw [beq_eq_false_iff_ne]; exact hc
                    have hcI : ((c : Int) == 0) = false := by rw [beq_eq_false_iff_ne]; omega
                    obtain ⟨c1, c2, c3, c4, f1, f2, f3, f4⟩ := J.rd.cells
                    have HP := hid (show DvQ w rb g kb l a b y.1 R4 (fun _ => Ru.ft (atW l 0) 3) false wc from .inr ⟨rfl, va, m, vk, pa, pm, pk, i, a', b', c, J, .inr ⟨f, by rw [HR4.out, hR]; rfl, hc, hf⟩⟩)
                    clear hR hf J hc
                    go_wp2_with fail
                    go_meet
                    exact ⟨false, rfl, HP⟩
                case rest =>
                  obtain ⟨b4, rfl, HP⟩ := hcut
                  clear HT3 HR4
                  go_upto_if 94 with fail
                  go_cut [] (fun wx => Hid (DvT w rb g kb l a b y.1 R4 wx))
                  case first =>
                    cases b4 with
                    | true =>
                      obtain ⟨-, va, m, vk, pa, pm, pk, i, J, hR⟩ := HP.out.resolve_right (fun q => by cases q.1)
                      obtain ⟨c1, c2, c3, c4, f1, f2, f3, f4⟩ := J.rd.cells
                      obtain ⟨V, hVV⟩ : ∃ V, V = wc.setCell ⟨rb, 1, none⟩ (.int .i64 0) := ⟨_, rfl⟩
                      have J4 := hid (show DvJ w rb g kb l 0 a b 0 y.1 (.slice va m vk) (.slice pa pm pk) V from by
                        rw [hVV]; exact J.step 0 (Nat.zero_le _))
                      have HFL := hid (Fail_any J4.out.rd 3)
                      have HT := hid (fun (w6 : World) (hr : RfAt w6 rb g l 0 (atW l 0).2.1 (atW l 0).2.2 3) (hg : V.grownBy w6 (some rb)) => (show DvT w rb g kb l a b y.1 R4 w6 from ⟨va, m, vk, pa, pm, pk, 0, _, _, _, J4.out.on' hr hg, .inr ⟨_, hR, by decide, rfl⟩⟩))
                      clear hR J
                      go_wp2_with fail
                      rw [← hVV]
                      clear hVV c1 c2 c3 c4 f1 f2 f3 f4
                      refine HFL.out.mono ?_
                      rintro en w6 ⟨rfl, hr6, hg6⟩
                      have HT6 := hid (HT.out w6 hr6 hg6)
                      clear hr6 hg6
                      go_wp2
                      go_meet
                      exact hid HT6.out
                    | false =>
                      have HT := hid (HP.out.resolve_left (fun q => by cases q.1)).2
                      go_wp2
                      go_meet
                      exact hid HT.out
                  case rest =>
                    obtain ⟨va, m, vk, pa, pm, pk, i, a', b', c, J, hT⟩ := hcut.out
                    have HT := hid hT
                    have HJ := hid J
                    have q0 : wc.cell? ⟨kb, 0, none⟩ = some (.string (tx y.1)) := by rw [cell_at J.box]; rfl
                    have q1 : wc.cell? ⟨kb, 1, none⟩ = some (.slice va m vk) := by rw [cell_at J.box]; rfl
                    have q2 : wc.cell? ⟨kb, 2, none⟩ = some (.slice pa pm pk) := by rw [cell_at J.box]; rfl
                    have hkl := lt_of_block J.box
                    have hpw := HPB.out wc J.on
                    have p1 : wc.cell? ⟨pb, 1, none⟩ = some (.slice dv N dc) := by rw [cell_at hpw]; rfl
                    have hpwl := lt_of_block hpw
                    have hws := J.on.size
                    have HDW := hid (HDO.out wc J.on)
                    have HDP := hid (own_notJ HDW.out.row hpw Tryz.devNeP)
                    have HRO := hid (fun (ob : Obj) => (by have hr := HDW.out.row; rw [← HNN.out] at hr; exact own_sameJ hr fun k q => Below.heap_alloc _ _ _ (hr.lt k q).2 : (wc.alloc ob).drew.ownsRow B 80 3 (.slice dv N dc) N (flatD ds)))
                    have HBW := hid (fun (ob : Obj) => (show B ≤ (wc.alloc ob).drew.heap.size by show B ≤ (wc.alloc ob).heap.size; simp only [World.size_alloc]; omega))
                    have HLB := hid (fun (ob : Obj) (w3 : World) (hg : (wc.alloc ob).drew.grownBy w3 (Value.slice dv N dc).ownBlock) => (by
                      have e : w3.heap[pb]? = wc.heap[pb]? := (hg.block pb (by show pb < (wc.alloc ob).heap.size; simp only [World.size_alloc]; omega) (fun e => HDP.out e.symm)).trans (Below.heap_alloc _ _ _ hpwl)
                      exact ⟨(World.cell?_of_block (by exact e)).trans p1, (World.frozen?_of_block (by exact e)).trans (free_of hpw)⟩ : w3.cell? ⟨pb, 1, none⟩ = some (.slice dv N dc) ∧ w3.frozen? ⟨pb, 1, none⟩ = false))
                    have HFIN := hid (fun (ob : Obj) (w3 : World) (g3 cap3 : Nat) (hown : w3.ownsRow B 80 3 (.slice (some ⟨g3, 0, none⟩) (N + 1) cap3) (N + 1) (flatD ds ++ [.string (tx y.1), .slice va m vk, .slice pa pm pk])) (hg : (wc.alloc ob).drew.grownBy w3 (Value.slice dv N dc).ownBlock) (hat : (Value.slice dv N dc).ownBlock = some g3 ∨ g3 = wc.heap.size + 1) => (show DvD B w pb rb g l a b x0 (.slice dv N dc) x2 x3 ds R0 (.returned (.tuple #[])) (w3.setCell ⟨pb, 1, none⟩ (.slice (some ⟨g3, 0, none⟩) (N + 1) cap3)) from by
                      obtain ⟨rcs, rfr, hrb⟩ := HRB.out
                      obtain ⟨p1, p2, p3, p4⟩ := dev_put hrb HJ.out (HPB.out w (growRefl _ _)) hpr hgp hB (HDO.out w (growRefl _ _)) HNN.out hdg hown hg hat
                      refine ⟨rfl, p1, ?_⟩
                      rcases HT.out with ⟨cs, ps, hR, hc, ha, hb, hm, hpm, oc, op⟩ | ⟨f, hR, hc, hf⟩
                      · subst hc; subst ha; subst hb; subst hm; subst hpm
                        exact .inl ⟨⟨y.1, cs, ps⟩, _, _, _, i, by rw [HE1.out, hR]; rfl, p2, p3 cs ps oc op, p4⟩
                      · exact .inr ⟨f, i, by rw [HE1.out, hR]; rfl, by rw [hf]; exact hc, by rw [hf]; exact p4⟩))
                    clear hpw hT J hcut HP
                    go_upto_region 16 with fail
                    go_region_law (refine step_append_lies _ (by rfl) (.tmp 105) (.tmp 107) 22 (by rfl) B 80 i0 (.agg #[.string (tx []), .slice none 0 0, .slice none 0 0]) 3 64 Tryz.underlying22 HI.out HZ0.out HZ1.out HZ2.out rfl (by decide) (.slice dv N dc) N (flatD ds) (by rfl) (by exact HRO.out _) ⟨wc.heap.size, 0, none⟩ 1 1 [.string (tx y.1), .slice va m vk, .slice pa pm pk] (by rfl) (by rfl) (by exact new_cells wc #[.string (tx y.1), .slice va m vk, .slice pa pm pk] _ _ rfl) (by simp [Value.oneCell']) (by omega) (by unfold maxLen; omega) (by omega) (by exact HBW.out _) (wc.heap.size + 1) (by simp) ?_; intro g3 cap3 w3 hown3 hgrow3 hat3 hlt3; obtain ⟨z1, z2⟩ := HLB.out _ w3 hgrow3)
                    all_goals (
                      have F1 := hid (HFIN.out _ _ _ _ hown3 hgrow3 hat3)
                      clear hown3 hgrow3 hat3
                      go_wp2
                      exact bodyPost_end (v := .tuple #[]) (by simp [results, Tryz.results32, go_sem]) rfl F1.out)
  · have HF := hid (HER.out _ 1 w1 (by rw [HDV.out, if_pos hnb]) (by show (31 : Nat) ≠ 0; decide) (by rw [HY.out] at hr1 ⊢; exact hr1) hg1)
    obtain ⟨c1, c2, c3, c4, f1, f2, f3, f4⟩ := (hr1.alloc (dob y.1 (.slice none 0 0) (.slice none 0 0))).cells
    have HF2 := hid (HER.out _ 1 (w1.alloc (dob y.1 (.slice none 0 0) (.slice none 0 0))) (by rw [HDV.out, if_pos hnb]) (by show (31 : Nat) ≠ 0; decide) (hr1.alloc _) (grownBelow hg1 ((Below.refl _ _).alloc (Nat.le_refl _) _)))
    clear hr1 hg1 hnb HF
    go_wp2
    exact bodyPost_ret (v := .tuple #[]) (by simp [results, Tryz.results32, go_sem]) rfl HF2.out
end Dt
end Go.Proofs.YtkepgjijidebhaaGreatDoor
