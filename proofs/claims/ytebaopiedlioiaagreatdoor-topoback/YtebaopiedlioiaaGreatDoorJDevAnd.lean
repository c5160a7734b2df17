/-
  A row of structs that was sorted: what the library's contract of slices.SortFunc leaves, as a row of one's own.
  The reader of topologies: a link, both ways.
  The reader of topologies: device, both ways.
  The reader of topologies: a device.
-/
import Derived.Test.YtebaopiedlioiaaGreatDoorJInsAnd
import Derived.Test.YtebaopiedlioiaaGreatDoorBMapAnd
import Derived.Deep.DeepCutAuto
import Derived.Deep.RegionLaw
import Derived.Deep.AppendLies
import Derived.Test.YtebaopiedlioiaaGreatDoorWRefSAnd
import Derived.Shelf.SlSortCmp.NoneTotal
import Derived.Below
namespace Go.Proofs.YtebaopiedlioiaaGreatDoor
open Go.RowKit Go
open Wo (Wd)

/-- What if r.passed(kw) { d.f = r.list(most) } leaves. -/
def OptQ (w : World) (rb g : Nat) (c0 c1 c2 c3 c4 : Value) (x e : Wd) (r : Except Ru.Ft (List (List UInt8) × List Wd)) (v : Value) (w' : World) : Prop :=
  ∃ ns t, r = .ok (ns, t) ∧ w'.ownsRow w.heap.size 9 1 v ns.length (svs ns) ∧ JOn w w' rb g c0 c1 c2 c3 c4 x t e
theorem numO_zero (ns : List (List UInt8)) (s : List UInt8) : (((numO ns s).getD 0 == 0) = true ↔ s ∉ ns) ∧ (((numO ns s).getD 0 == 0) = false ↔ s ∈ ns) := by
  unfold numO
  by_cases h : s ∈ ns
  · rw [if_pos h]
    have : ¬ ((ns.idxOf s : Int) + 1 = 0) := by omega
    simp [h, this]
  · rw [if_neg h]
    simp [h]

/-- A device in a block of its own. -/
abbrev dob (nm : List UInt8) (vc vp : Value) : Obj := .cells #[.string (tx nm), vc, vp] 80
/-- A reader, and a device that is being read: in block kb, vc its classes, vp its ports. -/
structure DvI (w : World) (rb g kb : Nat) (c0 c1 c2 c3 c4 : Value) (x e : Wd) (nm : List UInt8) (vc vp : Value) (cs ps : List (List UInt8)) (t : List Wd) (w' : World) : Prop where
  rd : JOn w w' rb g c0 c1 c2 c3 c4 x t e
  box : w'.heap[kb]? = some (dob nm vc vp)
  base : w.heap.size ≤ kb
  cls : w'.ownsRow w.heap.size 9 1 vc cs.length (svs cs)
  prt : w'.ownsRow w.heap.size 9 1 vp ps.length (svs ps)
  short : ShortJ e t
theorem svs_typeJ {w : World} {B kb : Nat} {v vc vp : Value} {nm : List UInt8} {n : Nat} {xs : List Value} (h : w.ownsRow B 9 1 v n xs) (hb : w.heap[kb]? = some (dob nm vc vp)) : v.ownBlock ≠ some kb := fun e => by
  rcases h.2 with ⟨e1, _⟩ | ⟨g', cap, cur, e1, _, hh, _⟩
  · rw [e1] at e; cases e
  · rw [e1] at e
    simp [Value.ownBlock] at e
    subst e
    rw [hb] at hh
    injection hh with hh
    injection hh with _ h2
    exact absurd h2 (by decide)
/-- A call that lets all but the reader as it was. -/
theorem DvI.on {w w1 w2 : World} {rb g kb : Nat} {c0 c1 c2 c3 c4 : Value} {x e : Wd} {nm : List UInt8} {vc vp : Value} {cs ps : List (List UInt8)} {t t' : List Wd} (h : DvI w rb g kb c0 c1 c2 c3 c4 x e nm vc vp cs ps t w1) (h2 : JOn w1 w2 rb g c0 c1 c2 c3 c4 x t' e) (hrb : rb < w.heap.size) (hs : ShortJ e t') : DvI w rb g kb c0 c1 c2 c3 c4 x e nm vc vp cs ps t' w2 := by
  have hk : ∀ k, k < w1.heap.size → w.heap.size ≤ k → w2.heap[k]? = w1.heap[k]? := fun k hk hl => h2.on.block k hk (fun q => by injection q with q; omega)
  have hkb := lt_of_block h.box
  exact ⟨⟨h2.rd, grown_two h.rd.on h2.on⟩, (hk kb hkb h.base).trans h.box, h.base, own_sameJ h.cls fun k q => hk k (h.cls.lt k q).2 (h.cls.lt k q).1, own_sameJ h.prt fun k q => hk k (h.prt.lt k q).2 (h.prt.lt k q).1, hs⟩
/-- A list was stored into the device. -/
theorem DvI.setC {w w1 : World} {rb g kb : Nat} {c0 c1 c2 c3 c4 : Value} {x e : Wd} {nm : List UInt8} {vc vp v : Value} {cs ps ls : List (List UInt8)} {t : List Wd} (h : DvI w rb g kb c0 c1 c2 c3 c4 x e nm vc vp cs ps t w1) (hv : w1.ownsRow w.heap.size 9 1 v ls.length (svs ls)) (hrb : rb < w.heap.size) (hg : g < w.heap.size) : DvI w rb g kb c0 c1 c2 c3 c4 x e nm v vp ls ps t (w1.setCell ⟨kb, 1, none⟩ v) := by
  have hB : Below w.heap.size w1 (w1.setCell ⟨kb, 1, none⟩ v) := (Below.refl _ _).setCell h.base _
  have hk : ∀ k, k ≠ kb → (w1.setCell ⟨kb, 1, none⟩ v).heap[k]? = w1.heap[k]? := fun k q => Below.heap_setCell _ _ _ _ (by exact q)
  refine ⟨h.rd.box hB hrb hg (Nat.le_refl _), ?_, h.base, own_sameJ hv fun k q => hk k (fun e => svs_typeJ hv h.box (by rw [← e]; exact q)), own_sameJ h.prt fun k q => hk k (fun e => svs_typeJ h.prt h.box (by rw [← e]; exact q)), h.short⟩
  rw [block_set (o := 1) _ h.box]; rfl
theorem DvI.setP {w w1 : World} {rb g kb : Nat} {c0 c1 c2 c3 c4 : Value} {x e : Wd} {nm : List UInt8} {vc vp v : Value} {cs ps ls : List (List UInt8)} {t : List Wd} (h : DvI w rb g kb c0 c1 c2 c3 c4 x e nm vc vp cs ps t w1) (hv : w1.ownsRow w.heap.size 9 1 v ls.length (svs ls)) (hrb : rb < w.heap.size) (hg : g < w.heap.size) : DvI w rb g kb c0 c1 c2 c3 c4 x e nm vc v cs ls t (w1.setCell ⟨kb, 2, none⟩ v) := by
  have hB : Below w.heap.size w1 (w1.setCell ⟨kb, 2, none⟩ v) := (Below.refl _ _).setCell h.base _
  have hk : ∀ k, k ≠ kb → (w1.setCell ⟨kb, 2, none⟩ v).heap[k]? = w1.heap[k]? := fun k q => Below.heap_setCell _ _ _ _ (by exact q)
  refine ⟨h.rd.box hB hrb hg (Nat.le_refl _), ?_, h.base, own_sameJ h.cls fun k q => hk k (fun e => svs_typeJ h.cls h.box (by rw [← e]; exact q)), own_sameJ hv fun k q => hk k (fun e => svs_typeJ hv h.box (by rw [← e]; exact q)), h.short⟩
  rw [block_set (o := 2) _ h.box]; rfl
theorem lst_short {e : Wd} {most : Nat} : ∀ (l : List Wd) (acc : List (List UInt8)) {ns : List (List UInt8)} {t : List Wd}, ShortJ e l → To.lst e most l acc = .ok (ns, t) → ShortJ e t := by
  intro l
  generalize hn : l.length = n
  induction n using Nat.strongRecOn generalizing l with
  | ind n ih =>
    intro acc ns t hs h
    rw [To.lst_eq hs.1] at h
    split at h
    · cases h
    · split at h
      · cases h
      · split at h
        · by_cases h0 : l = []
          · subst h0
            exact absurd ‹¬ Wo.nameB (Ru.nx e []).1 = false› (by rw [Ru.nx_nil, hs.1]; simp [Wo.nameB])
          · have := List.length_pos_iff.2 h0
            exact ih l.tail.tail.length (by simp only [List.length_tail]; omega) l.tail.tail rfl _ hs.tail.tail h
        · injection h with h
          injection h with _ h
          rw [← h]
          exact hs.tail
/-- list, while a device is being read. -/
theorem olist_on {w w1 : World} {rb g kb : Nat} {c0 c1 c2 c3 c4 : Value} {x e : Wd} {nm : List UInt8} {vc vp : Value} {cs ps : List (List UInt8)} {t : List Wd} {most : Nat} (h : DvI w rb g kb c0 c1 c2 c3 c4 x e nm vc vp cs ps t w1) (hrb : rb < w.heap.size) (hm : most ≤ 900) :
    Calls Tryz.prog 134 #[.pointer (some ⟨rb, 0, none⟩), .int .i64 most] w1 fun en w2 => (∃ ns t' v, Hid (To.lst e most t [] = .ok (ns, t')) ∧ en = .returned v ∧ Hid (DvI w rb g kb c0 c1 c2 c3 c4 x e nm vc vp cs ps t' w2 ∧ w2.ownsRow w.heap.size 9 1 v ns.length (svs ns))) ∨ (∃ f, Hid (To.lst e most t [] = .error f) ∧ JGave w rb f en w2) := by
  refine (olist_any h.rd.rd h.short hm).mono ?_
  rintro en w2 (⟨ns, t', v, h1, rfl, h2, h3⟩ | ⟨f, h1, h2⟩)
  · exact Or.inl ⟨ns, t', v, hid h1, rfl, hid ⟨h.on h3 hrb (lst_short t [] h.short h1), h2.mono h.rd.on.size⟩⟩
  · exact Or.inr ⟨f, hid h1, h2.after h.rd.on⟩
theorem JRd.set1 {w : World} {rb g : Nat} {c0 c1 c2 c3 c4 : Value} {x : Wd} {l : List Wd} {e : Wd} (h : JRd w rb g c0 c1 c2 c3 c4 x l e) (v : Value) : JRd (w.setCell ⟨rb, 1, none⟩ v) rb g c0 v c2 c3 c4 x l e := by
  obtain ⟨o, cap, f0, f1, f2, hc, h1, h2, h3, h4, h5⟩ := h.ex
  have eb : (w.setCell ⟨rb, 1, none⟩ v).heap[g]? = w.heap[g]? := Below.heap_setCell _ _ _ _ h3
  refine ⟨o, cap, f0, f1, f2, by rw [block_set (o := 1) _ hc]; rfl, h1, h2, h3, by simpa using h4, fun i y hy => ?_⟩
  obtain ⟨q1, q2, q3⟩ := h5 i y hy
  exact ⟨by rw [World.cell?_of_block eb]; exact q1, by rw [World.cell?_of_block eb]; exact q2, by rw [World.cell?_of_block eb]; exact q3⟩
/-- The device was put behind the others. -/
structure DvE (B : Nat) (w : World) (rb g kb nb : Nat) (c0 c1 c2 c4 : Value) (x e : Wd) (nm : List UInt8) (vc vp : Value) (cs ps ns : List (List UInt8)) (n : Nat) (xs : List Value) (v' : Value) (V : World) : Prop where
  rd : JRd V rb g c0 v' c2 (.map (some nb)) c4 x [] e
  num : NumAt V nb ns
  row : V.ownsRow B 80 3 v' (n + 1) (xs ++ [.string (tx nm), vc, vp])
  cls : V.ownsRow w.heap.size 9 1 vc cs.length (svs cs)
  prt : V.ownsRow w.heap.size 9 1 vp ps.length (svs ps)
  box : V.heap[kb]? = some (dob nm vc vp)
  at_ : v'.ownBlock = c1.ownBlock ∨ ∃ k, w.heap.size ≤ k ∧ v'.ownBlock = some k
  size : w.heap.size ≤ V.heap.size
  os : V.os = w.os
  tape : V.tape = w.tape
  output : V.output = w.output
  keep : ∀ k, k < w.heap.size → k ≠ rb → c1.ownBlock ≠ some k → V.heap[k]? = w.heap[k]?
theorem DvE.of {B : Nat} {w W w3 : World} {rb g kb nb g3 cap3 : Nat} {c0 c1 c2 c4 : Value} {x e : Wd} {nm : List UInt8} {vc vp : Value} {cs ps ns : List (List UInt8)} {n : Nat} {xs : List Value} (hI : DvI w rb g kb c0 c1 c2 (.map (some nb)) c4 x e nm vc vp cs ps [] W) (hN : NumAt w nb ns) (hD : w.ownsRow B 80 3 c1 n xs) (hnr : nb ≠ rb) (hdr : c1.ownBlock ≠ some rb) (hdg : c1.ownBlock ≠ some g) (hdn : c1.ownBlock ≠ some nb) (hrl : rb < w.heap.size) (hgl : g < w.heap.size)
    (hown : w3.ownsRow B 80 3 (.slice (some ⟨g3, 0, none⟩) (n + 1) cap3) (n + 1) (xs ++ [.string (tx nm), vc, vp])) (hg : W.grownBy w3 c1.ownBlock) (hat : c1.ownBlock = some g3 ∨ g3 = W.heap.size) :
    DvE B w rb g kb nb c0 c1 c2 c4 x e nm vc vp cs ps ns n xs (.slice (some ⟨g3, 0, none⟩) (n + 1) cap3) (w3.setCell ⟨rb, 1, none⟩ (.slice (some ⟨g3, 0, none⟩) (n + 1) cap3)) := by
  have hWs := hI.rd.on.size
  have hlt : ∀ k, c1.ownBlock = some k → k < w.heap.size := fun k hk => (hD.lt k hk).2
  have h3 : ∀ k, k < W.heap.size → c1.ownBlock ≠ some k → w3.heap[k]? = W.heap[k]? := fun k hk q => hg.block k hk (fun e => q e.symm)
  have hV : ∀ k, k ≠ rb → (w3.setCell ⟨rb, 1, none⟩ (.slice (some ⟨g3, 0, none⟩) (n + 1) cap3)).heap[k]? = w3.heap[k]? := fun k hk => Below.heap_setCell _ _ _ _ (by exact hk)
  have hnew : ∀ k, w.heap.size ≤ k → k < W.heap.size → (w3.setCell ⟨rb, 1, none⟩ (.slice (some ⟨g3, 0, none⟩) (n + 1) cap3)).heap[k]? = W.heap[k]? := fun k h1 h2 => (hV k (by omega)).trans (h3 k h2 (fun q => by have := hlt k q; omega))
  have hkb := lt_of_block hI.box
  refine ⟨?_, ?_, ?_, own_sameJ hI.cls fun k q => hnew k (hI.cls.lt k q).1 (hI.cls.lt k q).2, own_sameJ hI.prt fun k q => hnew k (hI.prt.lt k q).1 (hI.prt.lt k q).2, (hnew kb hI.base hkb).trans hI.box, ?_, ?_, hg.os.trans hI.rd.on.os, hg.tape.trans hI.rd.on.tape, hg.output.trans hI.rd.on.output, fun k hk h1 h2 => ?_⟩
  · exact (hI.rd.rd.grown (fun k hk => h3 k (by rcases hk with rfl | rfl <;> omega) (by rcases hk with rfl | rfl; exact hdr; exact hdg)) hg.size).set1 _
  · have hb : (w3.setCell ⟨rb, 1, none⟩ (.slice (some ⟨g3, 0, none⟩) (n + 1) cap3)).heap[nb]? = w.heap[nb]? := (hV nb hnr).trans ((h3 nb (by have := hN.lt; omega) hdn).trans (hI.rd.on.block nb hN.lt (fun q => hnr (by injection q))))
    exact hN.same hb
  · refine own_sameJ hown fun k q => hV k ?_
    have e : g3 = k := by simpa [Value.ownBlock] using q
    subst e
    rcases hat with q | q
    · rintro rfl; exact hdr q
    · omega
  · rcases hat with q | q
    · exact Or.inl (by rw [q]; rfl)
    · exact Or.inr ⟨g3, by omega, rfl⟩
  · have := hg.size
    simp only [World.size_setCell]
    omega
  · rw [hV k h1, h3 k (by omega) h2, hI.rd.on.block k hk (fun q => h1 (by injection q))]
end Go.Proofs.YtebaopiedlioiaaGreatDoor
namespace Go.Proofs.YtebaopiedlioiaaGreatDoor
open Go.RowKit Go
open Wo (Wd)

/-- What device leaves. -/
def DevQ (B : Nat) (w : World) (rb g nb : Nat) (c0 c1 c2 c4 : Value) (x e : Wd) (ns : List (List UInt8)) (n : Nat) (xs : List Value) (r : Except Ru.Ft To.Dv) (en : Ending) (w' : World) : Prop :=
  (∃ d vc vp v', r = .ok d ∧ en = .returned (.tuple #[]) ∧ JRd w' rb g c0 v' c2 (.map (some nb)) c4 x [] e ∧ NumAt w' nb (ns ++ [d.name]) ∧ w'.ownsRow B 80 3 v' (n + 1) (xs ++ [.string (tx d.name), vc, vp]) ∧ w'.ownsRow w.heap.size 9 1 vc d.cls.length (svs d.cls) ∧ w'.ownsRow w.heap.size 9 1 vp d.prt.length (svs d.prt) ∧ (v'.ownBlock = c1.ownBlock ∨ ∃ k, w.heap.size ≤ k ∧ v'.ownBlock = some k) ∧ w.heap.size ≤ w'.heap.size ∧ w'.os = w.os ∧ w'.tape = w.tape ∧ w'.output = w.output ∧ ∀ k, k < w.heap.size → k ≠ rb → k ≠ nb → c1.ownBlock ≠ some k → w'.heap[k]? = w.heap[k]?) ∨ (∃ f, r = .error f ∧ JGave w rb f en w')

theorem Tryz.infoDevJ : (Tryz.prog.info? 80).map (fun i => (i.zero, i.size, i.bytes)) = some (some (.agg #[.string (tx []), .slice none 0 0, .slice none 0 0]), 3, 64) := by kernel_rfl
theorem new_atJ {w : World} (o : Obj) {k : Nat} (h : k = w.heap.size) : (w.alloc o).heap[k]? = some o := by
  subst h; exact new_0 _ _

set_option maxRecDepth 20000 in
set_option maxHeartbeats 1000000 in
theorem odevice_any {w : World} {rb g nb : Nat} {c0 c1 c2 c4 : Value} {x : Wd} {l : List Wd} {e : Wd} {ns : List (List UInt8)} (h : JRd w rb g c0 c1 c2 (.map (some nb)) c4 x l e) (hs : ShortJ e l) (hN : NumAt w nb ns) (hnr : nb ≠ rb) (hng : nb ≠ g) {B n : Nat} {xs : List Value} (hD : w.ownsRow B 80 3 c1 n xs) (hnn : n = ns.length) (hn : n ≤ 1000) (hdr : c1.ownBlock ≠ some rb) (hdg : c1.ownBlock ≠ some g) (hdn : c1.ownBlock ≠ some nb) (hB : B ≤ w.heap.size) :
    Calls Tryz.prog 93 #[.pointer (some ⟨rb, 0, none⟩)] w fun en w' => DevQ B w rb g nb c0 c1 c2 c4 x e ns n xs (To.dev x e ns l) en w' := by
  obtain ⟨dv, dcap, rfl⟩ := own_formJ hD
  obtain ⟨i0, hi, hz0, hz1, hz2⟩ := info_parts Tryz.infoDevJ
  have HI := hid hi
  have HZ0 := hid hz0
  have HZ1 := hid hz1
  have HZ2 := hid hz2
  clear hi hz0 hz1 hz2
  have hrl := h.lt
  have hgl := h.gl.1
  have HSH := hid hs
  have HN := hid (oname_on (JOn.start h) hs.nx)
  obtain ⟨y, hy⟩ : ∃ y, y = Ru.nx e l := ⟨_, rfl⟩
  have hyl := hs.nx
  have HDV : Hid (To.dev x e ns l = if Wo.nameB y.1 = false then .error (Ru.ft y 31) else if y.1 ∈ ns then .error (Ru.ft y 111) else To.devA x e n y.1 (To.opt e 16 To.classT l.tail)) := by rw [hy, hnn]; rfl
  rw [← hy] at HN hyl
  have HNT := hid hN
  have HDT := hid hD
  have HNM := hid (fun (W : World) (hj : JOn w W rb g c0 (.slice dv n dcap) c2 (.map (some nb)) c4 x l.tail e) => (show NumAt W nb ns from hN.same (hj.on.block nb hN.lt (fun q => hnr (by injection q)))))
  have HLK := hid (fun (W : World) (hj : JOn w W rb g c0 (.slice dv n dcap) c2 (.map (some nb)) c4 x l.tail e) => (HNM.out W hj).look hyl)
  have HZ := hid (numO_zero ns y.1)
  obtain ⟨z, hz⟩ : ∃ z, z = (numO ns y.1).getD 0 := ⟨_, rfl⟩
  rw [← hz] at HLK HZ
  obtain ⟨b, hb⟩ : ∃ b, b = (z == 0) := ⟨_, rfl⟩
  rw [← hb] at HZ
  have hbq := hb.symm
  have HNN := hid hnn
  clear h hs hN hy hz hb hD hnn
  go_enter Tryz.func93, Tryz.ntmps93
  go_wp2_with fail
  refine HN.out.mono ?_
  rintro en w1 (⟨HB, rfl, H1⟩ | ⟨HB, q, rfl, hf, hg⟩)
  · have H2 := hid ((H1.out.alloc (wob y)).drew)
    have hlk := HLK.out _ H2.out
    obtain ⟨o, cap, ⟨-, -, -, k3, -⟩, -⟩ := (H1.out.alloc (wob y)).rd.cells
    go_wp2_with fail
    go_region_held2 (fun w' => w'.cell? ⟨w1.heap.size, 0, none⟩ = some (.string (tx y.1)) ∧ w'.cell? ⟨w1.heap.size, 1, none⟩ = some (.int .i64 y.2.1) ∧ w'.cell? ⟨w1.heap.size, 2, none⟩ = some (.int .i64 y.2.2) ∧ w'.cell? ⟨rb, 3, none⟩ = some (.map (some nb))) (first | (go_keep; done) | exact ⟨by go_keep, by go_keep, by go_keep, k3⟩) (first | (go_at_call 56; refine (omust_on H2.out b y 111).mono ?_; rintro en w2 (⟨HB2, rfl, rfl⟩ | ⟨HB2, q, rfl, hf, hg⟩); rotate_left; (exact ⟨rfl, Or.inr ⟨_, by rw [HDV.out, if_neg (by rw [HB.out]; simp), if_pos (HZ.out.2.1 HB2.out)], q, rfl, hf, hg⟩⟩)))
    have HDW := hid (show To.dev x e ns l = To.devA x e n y.1 (To.opt e 16 To.classT l.tail) by rw [HDV.out, if_neg (by rw [HB.out]; simp), if_neg (HZ.out.1.1 HB2.out)])
    have I0 := hid (show DvI w rb g (w1.heap.size + 1 + 1) c0 (.slice dv n dcap) c2 (.map (some nb)) c4 x e y.1 (.slice none 0 0) (.slice none 0 0) [] [] l.tail ((((w1.alloc (wob y)).alloc (wob y)).alloc (dob y.1 (.slice none 0 0) (.slice none 0 0))).drew) from ⟨(((H1.out.alloc _).alloc _).alloc _).drew, new_atJ (w := (w1.alloc (wob y)).alloc (wob y)) _ (by simp only [World.size_alloc]), by have := H1.out.on.size; omega, World.ownsRow_nil _ _ _ _, World.ownsRow_nil _ _ _ _, HSH.out.tail⟩)
    have HPC := hid (opassed_on (JOn.start I0.out.rd.rd) To.classT)
    obtain ⟨b1, hb1⟩ : ∃ b, b = decide ((Ru.nx e l.tail).1 = To.classT) := ⟨_, rfl⟩
    rw [← hb1] at HPC
    have HB1 := hid hb1
    clear hb1 hlk k3
    go_wp2_with fail
    refine HPC.out.mono ?_
    rintro en w4 ⟨rfl, H4⟩
    have I4 := hid (I0.out.on H4.out hrl (by split; exact HSH.out.tail.tail; exact HSH.out.tail))
    clear H4 I0 HPC H2
    obtain ⟨kb, hkb⟩ : ∃ kb, kb = w1.heap.size + 1 + 1 := ⟨_, rfl⟩
    rw [← hkb] at I4 ⊢
    clear hkb
    go_upto_if 21 with fail
    go_cut [] (fun wx => Hid (∃ vc cs t, To.opt e 16 To.classT l.tail = .ok (cs, t) ∧ DvI w rb g kb c0 (.slice dv n dcap) c2 (.map (some nb)) c4 x e y.1 vc (.slice none 0 0) cs [] t wx))
    case first =>
      cases b1 with
      | true =>
        have hc : (Ru.nx e l.tail).1 = To.classT := of_decide_eq_true HB1.out.symm
        rw [if_pos hc] at I4
        have HOP := hid (show To.opt e 16 To.classT l.tail = To.lst e 16 l.tail.tail [] from if_pos hc)
        have HLL := hid (olist_on (most := 16) I4.out hrl (by omega))
        clear hc
        go_wp2_with fail
        refine HLL.out.mono ?_
        rintro en w5 (⟨cs, t, v, HL, rfl, H5⟩ | ⟨f, HL, q, rfl, hf, hg⟩)
        · obtain ⟨va, vk, rfl⟩ := own_formJ H5.out.2
          have q1 : w5.cell? ⟨kb, 1, none⟩ = some (.slice none 0 0) := by rw [cell_at H5.out.1.box]; rfl
          have q2 : w5.frozen? ⟨kb, 1, none⟩ = false := free_of H5.out.1.box
          have H6 := hid (H5.out.1.setC H5.out.2 hrl hgl)
          go_wp2
          go_meet
          exact hid ⟨_, _, _, HOP.out.trans HL.out, H6.out⟩
        · exact ⟨rfl, Or.inr ⟨f, by rw [HDW.out, HOP.out, HL.out]; rfl, q, rfl, hf, hg⟩⟩
      | false =>
        have hc : ¬ (Ru.nx e l.tail).1 = To.classT := of_decide_eq_false HB1.out.symm
        rw [if_neg hc] at I4
        have HOP := hid (show To.opt e 16 To.classT l.tail = .ok ([], l.tail) from if_neg hc)
        clear hc
        go_wp2
        go_meet
        exact hid ⟨_, _, _, HOP.out, I4.out⟩
    case rest =>
      obtain ⟨vc, cs, t, hop, hI⟩ := hcut.out
      have HDX := hid (show To.dev x e ns l = To.devB x e n y.1 cs (To.opt e 64 To.portT t) by rw [HDW.out, hop]; rfl)
      have I5 := hid hI
      have HPC := hid (opassed_on (JOn.start hI.rd.rd) To.portT)
      obtain ⟨b2, hb2⟩ : ∃ b, b = decide ((Ru.nx e t).1 = To.portT) := ⟨_, rfl⟩
      rw [← hb2] at HPC
      have HB3 := hid hb2
      clear hb2 hI hop hcut I4 HB1
      go_wp2_with fail
      refine HPC.out.mono ?_
      rintro en w5 ⟨rfl, H5⟩
      have I6 := hid (I5.out.on H5.out hrl (by split; exact I5.out.short.tail; exact I5.out.short))
      clear H5 HPC
      go_upto_if 26 with fail
      go_cut [] (fun wx => Hid (∃ vp ps t', To.opt e 64 To.portT t = .ok (ps, t') ∧ DvI w rb g kb c0 (.slice dv n dcap) c2 (.map (some nb)) c4 x e y.1 vc vp cs ps t' wx))
      case first =>
        cases b2 with
        | true =>
          have hc : (Ru.nx e t).1 = To.portT := of_decide_eq_true HB3.out.symm
          rw [if_pos hc] at I6
          have HOP := hid (show To.opt e 64 To.portT t = To.lst e 64 t.tail [] from if_pos hc)
          have HLL := hid (olist_on (most := 64) I6.out hrl (by omega))
          clear hc
          go_wp2_with fail
          refine HLL.out.mono ?_
          rintro en w6 (⟨ps, t', v, HL, rfl, H5⟩ | ⟨f, HL, q, rfl, hf, hg⟩)
          · obtain ⟨va, vk, rfl⟩ := own_formJ H5.out.2
            have q1 : w6.cell? ⟨kb, 2, none⟩ = some (.slice none 0 0) := by rw [cell_at H5.out.1.box]; rfl
            have q2 : w6.frozen? ⟨kb, 2, none⟩ = false := free_of H5.out.1.box
            have H6 := hid (H5.out.1.setP H5.out.2 hrl hgl)
            go_wp2
            go_meet
            exact hid ⟨_, _, _, HOP.out.trans HL.out, H6.out⟩
          · exact ⟨rfl, Or.inr ⟨f, by rw [HDX.out, HOP.out, HL.out]; rfl, q, rfl, hf, hg⟩⟩
        | false =>
          have hc : ¬ (Ru.nx e t).1 = To.portT := of_decide_eq_false HB3.out.symm
          rw [if_neg hc] at I6
          have HOP := hid (show To.opt e 64 To.portT t = .ok ([], t) from if_neg hc)
          clear hc
          go_wp2
          go_meet
          exact hid ⟨_, _, _, HOP.out, I6.out⟩
      case rest =>
        clear I5 I6 HB3
        obtain ⟨vp, ps, t', hop, hI⟩ := hcut.out
        have HDY := hid (show To.dev x e ns l = To.devB x e n y.1 cs (.ok (ps, t')) by rw [HDX.out, hop])
        have I7 := hid hI
        have HFI : Hid (Calls Tryz.prog 131 #[.pointer (some ⟨rb, 0, none⟩)] wc fun en w' => (Hid (t' = []) ∧ en = .returned (.tuple #[]) ∧ Hid (DvI w rb g kb c0 (.slice dv n dcap) c2 (.map (some nb)) c4 x e y.1 vc vp cs ps t' w')) ∨ (Hid (t' ≠ []) ∧ JGave w rb (Ru.ft (Ru.nx e t') 110) en w')) := hid ((ofinish_on (JOn.start hI.rd.rd)).mono fun en w' h => h.elim (fun h => Or.inl ⟨h.1, h.2.1, hid (hI.on h.2.2.out hrl hI.short)⟩) (fun h => Or.inr ⟨h.1, h.2.after hI.rd.on⟩))
        clear hI hop hcut
        go_wp2_with fail
        refine HFI.out.mono ?_
        rintro en w7 (⟨HT, rfl, I8⟩ | ⟨HT, q, rfl, hf, hg⟩)
        · have hT := HT.out
          subst hT
          obtain ⟨o, cap, ⟨-, k1, -, -, -⟩, ⟨k5, k6, k7⟩, -, -, kf, -⟩ := I8.out.rd.rd.cells
          have kf1 := kf 1
          obtain ⟨b3, hb3⟩ : ∃ b, b = decide (n < 256) := ⟨_, rfl⟩
          have hb3' := hb3.symm
          have hb4 : decide ((n : Int) < 256) = b3 := by rw [hb3, decide_eq_decide]; omega
          have HB3 := hid (show (b3 = true → ¬ 256 ≤ n) ∧ (b3 = false → 256 ≤ n) by
            rw [hb3]
            exact ⟨fun q => by have := of_decide_eq_true q; omega, fun q => by have := of_decide_eq_false q; omega⟩)
          have HE3 := hid (show b3 = false → To.dev x e ns l = .error (Ru.ft x 3) from fun q => by
            rw [HDY.out]
            exact if_pos (HB3.out.2 q))
          have HE4 := hid (show b3 = true → To.dev x e ns l = .ok ⟨y.1, cs, ps⟩ from fun q => by
            rw [HDY.out]
            exact if_neg (HB3.out.1 q))
          clear hb3 kf I7
          go_upto_region 8 with fail
          go_cut [] (fun wx => Hid (b3 = true ∧ DvI w rb g kb c0 (.slice dv n dcap) c2 (.map (some nb)) c4 x e y.1 vc vp cs ps [] wx))
          case first =>
            go_region_held2 (fun w' => w'.cell? ⟨rb, 1, none⟩ = some (.slice dv n dcap) ∧ w'.cell? ⟨rb, 5, none⟩ = some (.string (tx x.1)) ∧ w'.cell? ⟨rb, 6, none⟩ = some (.int .i64 x.2.1) ∧ w'.cell? ⟨rb, 7, none⟩ = some (.int .i64 x.2.2)) (go_keep) (first | (go_at_call 56; refine (omust_on I8.out.rd.drew b3 x 3).mono ?_; rintro en w8 (⟨HB4, rfl, rfl⟩ | ⟨HB4, q, rfl, hf, hg⟩); rotate_left; (exact ⟨rfl, Or.inr ⟨_, HE3.out HB4.out, q, rfl, hf, hg⟩⟩)))
            go_wp2_with fail
            go_meet
            exact hid ⟨HB4.out, I8.out.on (JOn.start (I8.out.rd.drew.alloc (wob x)).rd |> fun q => ⟨q.rd, grown_of_below _ (((Below.refl _ _).alloc (Nat.le_refl _) _).drew)⟩) hrl I8.out.short⟩
          case rest =>
            have HE5 := hid (HE4.out hcut.out.1)
            have I9 := hid hcut.out.2
            clear hcut k1 k5 k6 k7 kf1 hb3' hb4 HE3 HE4 HB3 I8
            obtain ⟨va, vk, rfl⟩ := own_formJ I9.out.cls
            obtain ⟨pa, pk, rfl⟩ := own_formJ I9.out.prt
            obtain ⟨nc, hnc⟩ : ∃ nc, nc = cs.length := ⟨_, rfl⟩
            obtain ⟨np, hnp⟩ : ∃ np, np = ps.length := ⟨_, rfl⟩
            rw [← hnc, ← hnp] at I9
            clear hnc hnp
            obtain ⟨o, cap, ⟨-, k1, -, -, -⟩, -, -, -, kf, -⟩ := I9.out.rd.rd.cells
            have kf1 := kf 1
            have q0 : wc.cell? ⟨kb, 0, none⟩ = some (.string (tx y.1)) := by rw [cell_at I9.out.box]; rfl
            have q1 : wc.cell? ⟨kb, 1, none⟩ = some (.slice va nc vk) := by rw [cell_at I9.out.box]; rfl
            have q2 : wc.cell? ⟨kb, 2, none⟩ = some (.slice pa np pk) := by rw [cell_at I9.out.box]; rfl
            have hkl := lt_of_block I9.out.box
            have hrw : rb < wc.heap.size := I9.out.rd.rd.lt
            have hws := I9.out.rd.on.size
            clear kf
            have HRO := hid (fun (ob : Obj) => (show (wc.alloc ob).drew.ownsRow B 80 3 (.slice dv n dcap) n xs from own_sameJ HDT.out fun k q => (Below.heap_alloc _ _ _ (by have := (HDT.out.lt k q).2; omega)).trans (I9.out.rd.on.block k (HDT.out.lt k q).2 (fun e => hdr (by rw [q]; exact e)))))
            have HBW := hid (fun (ob : Obj) => (show B ≤ (wc.alloc ob).drew.heap.size by show B ≤ (wc.alloc ob).heap.size; simp only [World.size_alloc]; omega))
            have HLB := hid (fun (ob : Obj) (w3 : World) (hg : (wc.alloc ob).drew.grownBy w3 (Value.slice dv n dcap).ownBlock) => (by
              have e : w3.heap[rb]? = wc.heap[rb]? := (hg.block rb (by show rb < (wc.alloc ob).heap.size; simp only [World.size_alloc]; omega) (fun e => hdr e.symm)).trans (Below.heap_alloc _ _ _ hrw)
              exact ⟨(World.cell?_of_block (by exact e)).trans k1, (World.frozen?_of_block (by exact e)).trans kf1⟩ : w3.cell? ⟨rb, 1, none⟩ = some (.slice dv n dcap) ∧ w3.frozen? ⟨rb, 1, none⟩ = false))
            have HFIN := hid (fun (ob : Obj) (w3 : World) (g3 cap3 : Nat) (hown : w3.ownsRow B 80 3 (.slice (some ⟨g3, 0, none⟩) (n + 1) cap3) (n + 1) (xs ++ [.string (tx y.1), .slice va nc vk, .slice pa np pk])) (hg : (wc.alloc ob).drew.grownBy w3 (Value.slice dv n dcap).ownBlock) (hat : (Value.slice dv n dcap).ownBlock = some g3 ∨ g3 = wc.heap.size + 1) => DvE.of (W := (wc.alloc ob).drew) (I9.out.on (JOn.start ((JOn.start I9.out.rd.rd).alloc ob).drew.rd |> fun q => ⟨q.rd, grown_of_below _ (((Below.refl _ _).alloc (Nat.le_refl _) _).drew)⟩) hrl I9.out.short) HNT.out HDT.out hnr hdr hdg hdn hrl hgl hown hg (by rcases hat with q | q; exact Or.inl q; exact Or.inr (by show g3 = (wc.alloc ob).heap.size; simp only [World.size_alloc]; exact q)))
            go_upto_region 9 with fail
            go_cut [] (fun wz => Hid (∃ v', DvE B w rb g kb nb c0 (.slice dv n dcap) c2 c4 x e y.1 (.slice va nc vk) (.slice pa np pk) cs ps ns n xs v' wz))
            case first =>
              go_region_law (refine step_append_lies _ (by rfl) (.tmp 50) (.tmp 52) 22 (by rfl) B 80 i0 (.agg #[.string (tx []), .slice none 0 0, .slice none 0 0]) 3 64 Tryz.underlying22 HI.out HZ0.out HZ1.out HZ2.out rfl (by decide) (.slice dv n dcap) n xs (by rfl) (by exact HRO.out _) ⟨wc.heap.size, 0, none⟩ 1 1 [.string (tx y.1), .slice va nc vk, .slice pa np pk] (by rfl) (by rfl) (by exact new_cells wc #[.string (tx y.1), .slice va nc vk, .slice pa np pk] _ _ rfl) (by simp [Value.oneCell']) (by omega) (by unfold maxLen; omega) (by omega) (by exact HBW.out _) (wc.heap.size + 1) (by simp) ?_; intro g3 cap3 w3 hown3 hgrow3 hat3 hlt3; obtain ⟨z1, z2⟩ := HLB.out _ w3 hgrow3)
              all_goals (
                have F1 := hid (HFIN.out _ _ _ _ hown3 hgrow3 hat3)
                clear hown3 hgrow3 hat3
                go_wp2_with fail
                go_meet
                exact hid ⟨_, F1.out⟩)
            case rest =>
              clear k1 kf1 q0 q1 q2 hkl hrw hws HRO HBW HLB HFIN
              obtain ⟨v', hE⟩ := hcut.out
              obtain ⟨av, ak, hv'⟩ := own_formJ hE.row
              subst hv'
              obtain ⟨w', r1, r2, r3⟩ := (show NumAt wc.drew nb ns from hE.num.same rfl).put hyl (HZ.out.1.1 HB2.out) (by have := HNN.out; omega)
              rw [← HNN.out] at r1
              obtain ⟨o, cap, ⟨-, k1, -, k3, -⟩, -⟩ := hE.rd.cells
              have q0 : wc.cell? ⟨kb, 0, none⟩ = some (.string (tx y.1)) := by rw [cell_at hE.box]; rfl
              have HFF := hid (show DevQ B w rb g nb c0 (.slice dv n dcap) c2 c4 x e ns n xs (To.dev x e ns l) (.returned (.tuple #[])) w' from by
                have hnl := HNT.out.lt
                have hk : ∀ k, k < wc.heap.size → k ≠ nb → w'.heap[k]? = wc.heap[k]? := fun k h1 h2 => r3.block k h1 (fun q => h2 (by injection q))
                have hs3 : wc.heap.size ≤ w'.heap.size := r3.size
                have hsz := hE.size
                refine Or.inl ⟨⟨y.1, cs, ps⟩, .slice va nc vk, .slice pa np pk, .slice av (n + 1) ak, HE5.out, rfl, hE.rd.grown (fun k q => hk k (by rcases q with rfl | rfl <;> omega) (by rcases q with rfl | rfl; exact fun q => hnr q.symm; exact fun q => hng q.symm)) hs3, r2, ?_, ?_, ?_, hE.at_, by omega, r3.os.trans hE.os, r3.tape.trans hE.tape, r3.output.trans hE.output, fun k h1 h2 h3 h4 => (hk k (by omega) h3).trans (hE.keep k h1 h2 h4)⟩
                · refine own_sameJ hE.row fun k q => hk k (hE.row.lt k q).2 ?_
                  rintro rfl
                  rcases hE.at_ with q2 | ⟨k2, q2, q3⟩
                  · exact hdn (by rw [← q2]; exact q)
                  · rw [q3] at q; injection q with q; omega
                · exact own_sameJ hE.cls fun k q => hk k (hE.cls.lt k q).2 (by have := (hE.cls.lt k q).1; omega)
                · exact own_sameJ hE.prt fun k q => hk k (hE.prt.lt k q).2 (by have := (hE.prt.lt k q).1; omega))
              clear hcut hE r2 r3
              go_wp2_with fail
              go_region
              go_wp2
              exact bodyPost_end (v := .tuple #[]) (by simp [results, Tryz.results93, go_sem]) rfl HFF.out
        · exact ⟨rfl, Or.inr ⟨_, by rw [HDY.out]; exact if_pos HT.out, q, rfl, hf, hg⟩⟩
  · exact ⟨rfl, Or.inr ⟨_, by rw [HDV.out, if_pos HB.out], q, rfl, hf, hg⟩⟩
end Go.Proofs.YtebaopiedlioiaaGreatDoor
namespace Go.Proofs.YtebaopiedlioiaaGreatDoor
open Go.RowKit Go
open Wo (Wd)

def arrowT : List UInt8 := [45, 62]
/-- What stands behind a link's ends. -/
def lnkB (x e : Wd) (n : Nat) (a : Nat × List UInt8) (t : List Wd) : Except Ru.Ft (Nat × List UInt8) → Except Ru.Ft ((Nat × List UInt8) × (Nat × List UInt8))
  | .error f => .error f
  | .ok b => if t ≠ [] then .error (Ru.ft (Ru.nx e t) 110) else if 4096 ≤ n then .error (Ru.ft x 3) else .ok (a, b)
def lnkA (hp : Nat → List UInt8 → Bool) (ns : List (List UInt8)) (ks : List (Nat × List UInt8)) (x e : Wd) (n : Nat) (t : List Wd) : Except Ru.Ft (Nat × List UInt8) → Except Ru.Ft ((Nat × List UInt8) × (Nat × List UInt8))
  | .error f => .error f
  | .ok a => if (Ru.nx e t).1 ≠ arrowT then .error (Ru.ft (Ru.nx e t) 110) else lnkB x e n a t.tail.tail.tail (endJ hp ns (ks ++ [a]) e t.tail)
/-- A link. -/
def lnkJ (hp : Nat → List UInt8 → Bool) (ns : List (List UInt8)) (ks : List (Nat × List UInt8)) (x e : Wd) (n : Nat) (l : List Wd) : Except Ru.Ft ((Nat × List UInt8) × (Nat × List UInt8)) := lnkA hp ns ks x e n l.tail.tail (endJ hp ns ks e l)

theorem lnkA_ok (hp : Nat → List UInt8 → Bool) (ns : List (List UInt8)) (ks : List (Nat × List UInt8)) (x e : Wd) (n : Nat) (t : List Wd) (a : Nat × List UInt8) : lnkA hp ns ks x e n t (.ok a) = if (Ru.nx e t).1 ≠ arrowT then .error (Ru.ft (Ru.nx e t) 110) else lnkB x e n a t.tail.tail.tail (endJ hp ns (ks ++ [a]) e t.tail) := rfl
theorem lnkB_ok (x e : Wd) (n : Nat) (a b : Nat × List UInt8) (t : List Wd) : lnkB x e n a t (.ok b) = if t ≠ [] then .error (Ru.ft (Ru.nx e t) 110) else if 4096 ≤ n then .error (Ru.ft x 3) else .ok (a, b) := rfl
/-- A link's cells. -/
def lkC (a b : Nat × List UInt8) : List Value := if ocE b.1 b.2 a.1 a.2 < 0 then [.int .i64 b.1, .string (tx b.2), .int .i64 a.1, .string (tx a.2)] else [.int .i64 a.1, .string (tx a.2), .int .i64 b.1, .string (tx b.2)]
/-- What link leaves. -/
def LnkQ (B : Nat) (w : World) (rb g nb mb : Nat) (c0 c1 c2 : Value) (x e : Wd) (ns : List (List UInt8)) (ks : List (Nat × List UInt8)) (n : Nat) (xs : List Value) (r : Except Ru.Ft ((Nat × List UInt8) × (Nat × List UInt8))) (en : Ending) (w' : World) : Prop :=
  (∃ a b v', r = .ok (a, b) ∧ en = .returned (.tuple #[]) ∧ JRd w' rb g c0 c1 v' (.map (some nb)) (.map (some mb)) x [] e ∧ NumAt w' nb ns ∧ TakAt w' mb (ks ++ [a] ++ [b]) ∧ w'.ownsRow B 83 4 v' (n + 1) (xs ++ lkC a b) ∧ (v'.ownBlock = c2.ownBlock ∨ ∃ k, w.heap.size ≤ k ∧ v'.ownBlock = some k) ∧ w.heap.size ≤ w'.heap.size ∧ w'.os = w.os ∧ w'.tape = w.tape ∧ w'.output = w.output ∧ ∀ k, k < w.heap.size → k ≠ rb → k ≠ mb → c2.ownBlock ≠ some k → w'.heap[k]? = w.heap[k]?) ∨ (∃ f, r = .error f ∧ JGav2 w rb mb f en w')

theorem cell_ltJ {w : World} {b o : Nat} {v : Value} (h : w.cell? ⟨b, o, none⟩ = some v) : b < w.heap.size := by
  obtain ⟨c, e, fr, h1, -⟩ := Go.Sort.cells_of_cell? h
  exact lt_of_block h1
theorem far2J {w : World} {a b o o' : Nat} {v : Value} (h : ¬ a = b) : (w.setCell ⟨b, o', none⟩ v).cell? ⟨a, o, none⟩ = w.cell? ⟨a, o, none⟩ := World.cell?_of_block (Below.heap_setCell _ _ _ _ h)
theorem Tryz.infoLinkJ : (Tryz.prog.info? 83).map (fun i => (i.zero, i.size, i.bytes)) = some (some (.agg #[.int .i64 0, .string (tx []), .int .i64 0, .string (tx [])]), 4, 48) := by kernel_rfl
theorem JRd.set2 {w : World} {rb g : Nat} {c0 c1 c2 c3 c4 : Value} {x : Wd} {l : List Wd} {e : Wd} (h : JRd w rb g c0 c1 c2 c3 c4 x l e) (v : Value) : JRd (w.setCell ⟨rb, 2, none⟩ v) rb g c0 c1 v c3 c4 x l e := by
  obtain ⟨o, cap, f0, f1, f2, hc, h1, h2, h3, h4, h5⟩ := h.ex
  have eb : (w.setCell ⟨rb, 2, none⟩ v).heap[g]? = w.heap[g]? := Below.heap_setCell _ _ _ _ h3
  refine ⟨o, cap, f0, f1, f2, by rw [block_set (o := 2) _ hc]; rfl, h1, h2, h3, by simpa using h4, fun i y hy => ?_⟩
  obtain ⟨q1, q2, q3⟩ := h5 i y hy
  exact ⟨by rw [World.cell?_of_block eb]; exact q1, by rw [World.cell?_of_block eb]; exact q2, by rw [World.cell?_of_block eb]; exact q3⟩
/-- What a link's line leaves where all is well. -/
def LnkE (B : Nat) (w : World) (rb g nb mb : Nat) (c0 c1 c2 : Value) (x e : Wd) (ns : List (List UInt8)) (ks : List (Nat × List UInt8)) (n : Nat) (xs : List Value) (v' : Value) (w' : World) : Prop :=
  JRd w' rb g c0 c1 v' (.map (some nb)) (.map (some mb)) x [] e ∧ NumAt w' nb ns ∧ TakAt w' mb ks ∧ w'.ownsRow B 83 4 v' (n + 1) xs ∧ (v'.ownBlock = c2.ownBlock ∨ ∃ k, w.heap.size ≤ k ∧ v'.ownBlock = some k) ∧ w.heap.size ≤ w'.heap.size ∧ w'.os = w.os ∧ w'.tape = w.tape ∧ w'.output = w.output ∧ ∀ k, k < w.heap.size → k ≠ rb → k ≠ mb → c2.ownBlock ≠ some k → w'.heap[k]? = w.heap[k]?
theorem JL.put {B : Nat} {w W w3 : World} {rb g nb mb g3 cap3 : Nat} {c0 c1 c2 : Value} {x e : Wd} {ns : List (List UInt8)} {ks : List (Nat × List UInt8)} {n : Nat} {xs ys : List Value} (hJ : JL w W rb g nb mb c0 c1 c2 x [] e ns ks) (hD : w.ownsRow B 83 4 c2 n xs) (hnr : nb ≠ rb) (hmr : mb ≠ rb) (hdr : c2.ownBlock ≠ some rb) (hdg : c2.ownBlock ≠ some g) (hdn : c2.ownBlock ≠ some nb) (hdm : c2.ownBlock ≠ some mb)
    (hown : w3.ownsRow B 83 4 (.slice (some ⟨g3, 0, none⟩) (n + 1) cap3) (n + 1) ys) (hg : W.grownBy w3 c2.ownBlock) (hat : c2.ownBlock = some g3 ∨ g3 = W.heap.size) :
    LnkE B w rb g nb mb c0 c1 c2 x e ns ks n ys (.slice (some ⟨g3, 0, none⟩) (n + 1) cap3) (w3.setCell ⟨rb, 2, none⟩ (.slice (some ⟨g3, 0, none⟩) (n + 1) cap3)) := by
  have hWs := hJ.on.size
  have hrl := hJ.rd.lt
  obtain ⟨hgl, hgr⟩ := hJ.rd.gl
  have hlt : ∀ k, c2.ownBlock = some k → k < w.heap.size := fun k hk => (hD.lt k hk).2
  have h3 : ∀ k, k < W.heap.size → c2.ownBlock ≠ some k → w3.heap[k]? = W.heap[k]? := fun k hk q => hg.block k hk (fun e => q e.symm)
  have hV : ∀ k, k ≠ rb → (w3.setCell ⟨rb, 2, none⟩ (.slice (some ⟨g3, 0, none⟩) (n + 1) cap3)).heap[k]? = w3.heap[k]? := fun k hk => Below.heap_setCell _ _ _ _ (by exact hk)
  refine ⟨?_, ?_, ?_, ?_, ?_, ?_, hg.os.trans hJ.on.os, hg.tape.trans hJ.on.tape, hg.output.trans hJ.on.output, fun k hk h1 h4 h2 => ?_⟩
  · exact (hJ.rd.grown (fun k hk => h3 k (by rcases hk with rfl | rfl <;> omega) (by rcases hk with rfl | rfl; exact hdr; exact hdg)) hg.size).set2 _
  · exact hJ.num.same ((hV nb hnr).trans (h3 nb hJ.num.lt hdn))
  · exact hJ.tak.same ((hV mb hmr).trans (h3 mb hJ.tak.lt hdm))
  · refine own_sameJ hown fun k q => hV k ?_
    have e : g3 = k := by simpa [Value.ownBlock] using q
    subst e
    rcases hat with q | q
    · rintro rfl; exact hdr q
    · omega
  · rcases hat with q | q
    · exact Or.inl (by rw [q]; rfl)
    · exact Or.inr ⟨g3, by omega, rfl⟩
  · have := hg.size
    simp only [World.size_setCell]
    omega
  · rw [hV k h1, h3 k (by omega) h2, hJ.on.block k hk h1 h4]

set_option maxRecDepth 20000 in
set_option maxHeartbeats 1000000 in
theorem olink_any {w : World} {rb g nb mb : Nat} {c0 c1 c2 : Value} {x : Wd} {l : List Wd} {e : Wd} {ns : List (List UInt8)} {ks : List (Nat × List UInt8)} {hp : Nat → List UInt8 → Bool} (h : JL w w rb g nb mb c0 c1 c2 x l e ns ks) (hnr : nb ≠ rb) (hnm : nb ≠ mb) (hmr : mb ≠ rb) (hgm : g ≠ mb) (hsh : ShortJ e l) (hnl : ns.length ≤ 100000) (hks : ks.length ≤ 1048000) {B n : Nat} {xs : List Value} (hD : w.ownsRow B 83 4 c2 n xs) (hn : n ≤ 4096) (hdr : c2.ownBlock ≠ some rb) (hdg : c2.ownBlock ≠ some g) (hdn : c2.ownBlock ≠ some nb) (hdm : c2.ownBlock ≠ some mb) (hB : B ≤ w.heap.size)
    (HP : ∀ (W : World) (p : Nat) (m : List UInt8), Gr2 w W rb mb → m.length ≤ 1048576 → Calls Tryz.prog 77 #[c1, .agg #[.int .i64 p, .string (tx m)]] W fun en w' => en = .returned (.bool (hp p m)) ∧ Below W.heap.size W w') :
    Calls Tryz.prog 94 #[.pointer (some ⟨rb, 0, none⟩)] w fun en w' => LnkQ B w rb g nb mb c0 c1 c2 x e ns ks n xs (lnkJ hp ns ks x e n l) en w' := by
  obtain ⟨dv, dcap, rfl⟩ := own_formJ hD
  obtain ⟨i0, hi, hz0, hz1, hz2⟩ := info_parts Tryz.infoLinkJ
  have HI := hid hi
  have HZ0 := hid hz0
  have HZ1 := hid hz1
  have HZ2 := hid hz2
  clear hi hz0 hz1 hz2
  have HRR := hid (show lnkJ hp ns ks x e n l = lnkA hp ns ks x e n l.tail.tail (endJ hp ns ks e l) from rfl)
  obtain ⟨R, hR⟩ : ∃ R, R = lnkJ hp ns ks x e n l := ⟨_, rfl⟩
  rw [← hR] at HRR ⊢
  have HA := hid (oend_l h hnr hnm hmr hgm hsh.nx hsh.tail.nx hnl (by omega) HP)
  have hrl := h.rd.lt
  obtain ⟨t, ht⟩ : ∃ t, t = l.tail.tail := ⟨_, rfl⟩
  have hst : ShortJ e t := by rw [ht]; exact hsh.tail.tail
  rw [← ht] at HA HRR
  obtain ⟨r, hr⟩ : ∃ r, r = endJ hp ns ks e l := ⟨_, rfl⟩
  rw [← hr] at HA HRR
  clear h ht hr hR
  go_enter Tryz.func94, Tryz.ntmps94
  go_wp2_with fail
  refine HA.out.mono ?_
  rintro en w1 (⟨p, m, HR1, rfl, H1⟩ | ⟨f, HR1, q, rfl, hf, hg⟩)
  · obtain ⟨Wb, hWb⟩ : ∃ Wb, Wb = w1.alloc (eob p m) := ⟨_, rfl⟩
    have L0 := hid (show JL w Wb rb g nb mb c0 c1 (.slice dv n dcap) x t e ns (ks ++ [(p, m)]) by rw [hWb]; exact H1.out.alloc _)
    have hkb : Wb.heap[w1.heap.size]? = some (eob p m) := by rw [hWb]; exact new_0 _ _
    have hr1 := H1.out.rd.lt
    have hm1 := H1.out.tak.lt
    have LB := hid (JL.start L0.out.rd L0.out.num L0.out.tak)
    have HEN := hid (fun (W : World) (hW : JL Wb W rb g nb mb c0 c1 (.slice dv n dcap) x t.tail e ns (ks ++ [(p, m)])) => oend_l hW hnr hnm hmr hgm hst.tail.nx hst.tail.tail.nx hnl (by rw [List.length_append, List.length_singleton]; omega) (fun V p m hV hm => HP V p m (L0.out.on.two hV) hm))
    obtain ⟨kb, hk⟩ : ∃ kb, kb = w1.heap.size := ⟨_, rfl⟩
    have HK := hid (show rb < kb ∧ mb < kb by omega)
    have HKA := hid (show w.heap.size ≤ kb by have := H1.out.on.size; omega)
    rw [← hk] at hkb
    obtain ⟨y, hy⟩ : ∃ y, y = Ru.nx e t := ⟨_, rfl⟩
    have HPK := hid (fun (W : World) (hW : JL Wb W rb g nb mb c0 c1 (.slice dv n dcap) x t e ns (ks ++ [(p, m)])) => (by
      refine (opeek_any hW.rd).mono ?_
      rintro en w' ⟨h1, h2⟩
      rw [hy]
      exact ⟨h1, hW.below h2⟩ : Calls Tryz.prog 136 #[.pointer (some ⟨rb, 0, none⟩)] W fun en w' => en = .returned (wv y) ∧ Hid (JL Wb w' rb g nb mb c0 c1 (.slice dv n dcap) x t e ns (ks ++ [(p, m)]))))
    have hfl : ∀ w : World, (Instr.field 74 (wv y) 0).run Tryz.prog w = .ok (.string (tx y.1)) w := fun _ => rfl
    obtain ⟨b, hb⟩ : ∃ b, b = (y.1 == arrowT) := ⟨_, rfl⟩
    have HBB := hid hb
    have hbq : (y.1 == [45, 62]) = b := hb.symm
    have HY := hid hy
    clear hy hb
    go_wp2_with fail
    rw [← hWb, ← hk]
    clear hWb hk
    refine (HPK.out _ LB.out).mono ?_
    rintro en w2 ⟨rfl, H2⟩
    go_wp2_with fail
    refine (HPK.out _ H2.out).mono ?_
    rintro en w3 ⟨rfl, H3⟩
    go_wp2_with fail
    refine (omust_l H3.out b y 110).mono ?_
    rintro en w4 (⟨HB1, rfl, rfl⟩ | ⟨HB1, q, rfl, hf, hg⟩)
    · have H4 := hid (H3.out.alloc (wob y))
      have HR2 := hid (show R = lnkB x e n (p, m) t.tail.tail.tail (endJ hp ns (ks ++ [(p, m)]) e t.tail) by
        rw [HRR.out, HR1.out, lnkA_ok, if_neg (by rw [← HY.out]; have := HBB.out; rw [HB1.out] at this; simpa using this.symm)])
      go_wp2_with fail
      refine (onext_l H4.out hnr hmr).mono ?_
      rintro en w5 ⟨rfl, H5⟩
      go_wp2_with fail
      refine (HEN.out _ H5.out).mono ?_
      rintro en w6 (⟨p', m', HR3, rfl, H6⟩ | ⟨f, HR3, q, rfl, hf, hg⟩)
      · obtain ⟨Wc, hWc⟩ : ∃ Wc, Wc = w6.alloc (eob p' m') := ⟨_, rfl⟩
        have L6 := hid (show JL Wb Wc rb g nb mb c0 c1 (.slice dv n dcap) x t.tail.tail.tail e ns (ks ++ [(p, m)] ++ [(p', m')]) by rw [hWc]; exact H6.out.alloc _)
        have hqc : Wc.heap[w6.heap.size]? = some (eob p' m') := by rw [hWc]; exact new_0 _ _
        obtain ⟨qb, hqb⟩ : ∃ qb, qb = w6.heap.size := ⟨_, rfl⟩
        have hr6 := H6.out.rd.lt
        have hm6 := H6.out.tak.lt
        have HQ := hid (show rb < qb ∧ mb < qb by omega)
        have HQA := hid (show w.heap.size ≤ qb by have := H6.out.on.size; have := L0.out.on.size; omega)
        rw [← hqb] at hqc
        have HQC := hid hqc
        have HF0 := hid (ofinish_l (JL.start L6.out.rd L6.out.num L6.out.tak) hnr hmr)
        clear hqc hr6 hm6
        go_wp2_with fail
        rw [← hWc, ← hqb]
        clear hWc hqb
        refine HF0.out.mono ?_
        rintro en w7 (⟨HT, rfl, HC7⟩ | ⟨HT, q, rfl, hf, hg⟩)
        · have H7 := hid (show JL Wb w7 rb g nb mb c0 c1 (.slice dv n dcap) x t.tail.tail.tail e ns (ks ++ [(p, m)] ++ [(p', m')]) from ⟨HC7.out.rd, HC7.out.num, HC7.out.tak, L6.out.on.two HC7.out.on⟩)
          obtain ⟨o, cap, ⟨-, -, k2, -, -⟩, ⟨k5, k6, k7⟩, -, -, kf, -⟩ := H7.out.rd.cells
          obtain ⟨b3, hb3⟩ : ∃ b, b = decide ((n : Int) < 4096) := ⟨_, rfl⟩
          have HB3 := hid (show (b3 = true → ¬ 4096 ≤ n) ∧ (b3 = false → 4096 ≤ n) by
            rw [hb3]
            exact ⟨fun q => by have := of_decide_eq_true q; omega, fun q => by have := of_decide_eq_false q; omega⟩)
          have hb3' : decide ((n : Int) < 4096) = b3 := hb3.symm
          have hrl7 := H7.out.rd.lt
          clear hb3
          go_wp2_with fail
          go_region_held2 (fun w' => w'.cell? ⟨rb, 2, none⟩ = some (.slice dv n dcap) ∧ w'.cell? ⟨rb, 5, none⟩ = some (.string (tx x.1)) ∧ w'.cell? ⟨rb, 6, none⟩ = some (.int .i64 x.2.1) ∧ w'.cell? ⟨rb, 7, none⟩ = some (.int .i64 x.2.2)) (go_keep) (first | (go_at_call 56; refine (omust_l H7.out.drew b3 x 3).mono ?_; rintro en w8 (⟨HB4, rfl, rfl⟩ | ⟨HB4, q, rfl, hf, hg⟩); rotate_left; (exact ⟨rfl, Or.inr ⟨_, by rw [HR2.out, HR3.out, lnkB_ok, if_neg (fun q => q HT.out), if_pos (HB3.out.2 HB4.out)], JGav2.after ⟨q, rfl, hf, hg⟩ L0.out.on⟩⟩)))
          obtain ⟨w8, hw8⟩ : ∃ w8, w8 = (w7.alloc (wob x)).drew := ⟨_, rfl⟩
          have H8 := hid (show JL Wb w8 rb g nb mb c0 c1 (.slice dv n dcap) x t.tail.tail.tail e ns (ks ++ [(p, m)] ++ [(p', m')]) by rw [hw8]; exact (H7.out.alloc (wob x)).drew)
          obtain ⟨a1, n1, a2, n2, hj, hlc⟩ : ∃ (a1 : Nat) (n1 : List UInt8) (a2 : Nat) (n2 : List UInt8), (if ocE p' m' p m < 0 then lkv p' m' p m else lkv p m p' m') = lkv a1 n1 a2 n2 ∧ lkC (p, m) (p', m') = [.int .i64 a1, .string (tx n1), .int .i64 a2, .string (tx n2)] := by
            unfold lkC
            by_cases hc : ocE p' m' p m < 0
            · exact ⟨p', m', p, m, by rw [if_pos hc], by rw [if_pos hc]⟩
            · exact ⟨p, m, p', m', by rw [if_neg hc], by rw [if_neg hc]⟩
          have HLC := hid hlc
          have HJN := hid (fun (W : World) => (by have := ojoined_any (w := W) (p := p) (q := p') (m := m) (n := m'); rw [hj] at this; exact this : Calls Tryz.prog 98 #[.agg #[.int .i64 p, .string (tx m)], .agg #[.int .i64 p', .string (tx m')]] W fun e w' => e = .returned (lkv a1 n1 a2 n2) ∧ Below W.heap.size W w'))
          obtain ⟨o8, cap8, ⟨-, -, j2, -, -⟩, -, -, -, jf, -⟩ := H8.out.rd.cells
          have jf2 := jf 2
          rw [← hw8]
          clear hj hlc k2 k5 k6 k7 kf jf
          have G8 : Gr2 Wc w8 rb mb := by rw [hw8]; exact HC7.out.on.two (Gr2.ofA (grown_of_below _ (((Below.refl _ _).alloc (Nat.le_refl _) _).drew)))
          have hq8 : w8.heap[qb]? = some (eob p' m') := (G8.block qb (lt_of_block HQC.out) (by have := HQ.out; omega) (by have := HQ.out; omega)).trans HQC.out
          have hk8 : w8.heap[kb]? = some (eob p m) := (H8.out.on.block kb (lt_of_block hkb) (by have := HK.out; omega) (by have := HK.out; omega)).trans hkb
          obtain ⟨s0, s1⟩ := eob_cells hq8
          obtain ⟨u0, u1⟩ := eob_cells hk8
          clear hw8 G8 hq8 hk8
          have hnm : n + 1 ≤ 4097 := by omega
          have GW := hid (show Gr2 w w8 rb mb from L0.out.on.two H8.out.on)
          have hrl8 := H8.out.rd.lt
          have hkq := And.intro (by have := HK.out; exact this : rb < kb ∧ mb < kb) (by have := HQ.out; exact this : rb < qb ∧ mb < qb)
          have hk8l : kb < w8.heap.size := cell_ltJ u0
          have hq8l : qb < w8.heap.size := cell_ltJ s0
          have hkd : (Value.slice dv n dcap).ownBlock ≠ some kb ∧ (Value.slice dv n dcap).ownBlock ≠ some qb := ⟨fun q => by have := (hD.lt kb q).2; have := HKA.out; omega, fun q => by have := (hD.lt qb q).2; have := HQA.out; omega⟩
          have HS9 := hid (fun (w9 : World) (hb : Below w8.heap.size w8 w9) => (by
            exact ⟨(World.cell?_of_block (hb.block rb hrl8)).trans j2, (World.cell?_of_block (hb.block kb hk8l)).trans u0, (World.cell?_of_block (hb.block kb hk8l)).trans u1, (World.cell?_of_block (hb.block qb hq8l)).trans s0, (World.cell?_of_block (hb.block qb hq8l)).trans s1⟩ : w9.cell? ⟨rb, 2, none⟩ = some (.slice dv n dcap) ∧ w9.cell? ⟨kb, 0, none⟩ = some (.int .i64 p) ∧ w9.cell? ⟨kb, 1, none⟩ = some (.string (tx m)) ∧ w9.cell? ⟨qb, 0, none⟩ = some (.int .i64 p') ∧ w9.cell? ⟨qb, 1, none⟩ = some (.string (tx m'))))
          have HRO := hid (fun (w9 : World) (ob : Obj) (hb : Below w8.heap.size w8 w9) => (show (w9.alloc ob).ownsRow B 83 4 (.slice dv n dcap) n xs from own_sameJ hD fun k q => by
            have hkl := (hD.lt k q).2
            have h8 := GW.out.size
            have h9 := hb.size
            rw [Below.heap_alloc _ _ _ (by omega), hb.block k (by omega), GW.out.block k hkl (fun e => hdr (by rw [q, e])) (fun e => hdm (by rw [q, e]))]))
          have HBW := hid (fun (w9 : World) (ob : Obj) (hb : Below w8.heap.size w8 w9) => (by have h8 := GW.out.size; have h9 := hb.size; simp only [World.size_alloc]; omega : B ≤ (w9.alloc ob).heap.size))
          have HFIN := hid (fun (w9 w3 : World) (ob : Obj) (g3 cap3 : Nat) (hb : Below w8.heap.size w8 w9) (hown : w3.ownsRow B 83 4 (.slice (some ⟨g3, 0, none⟩) (n + 1) cap3) (n + 1) (xs ++ [.int .i64 a1, .string (tx n1), .int .i64 a2, .string (tx n2)])) (hg : (w9.alloc ob).grownBy w3 (Value.slice dv n dcap).ownBlock) (hat : (Value.slice dv n dcap).ownBlock = some g3 ∨ g3 = (w9.alloc ob).heap.size) => (by
            have hJ : JL w (w9.alloc ob) rb g nb mb c0 c1 (.slice dv n dcap) x [] e ns (ks ++ [(p, m)] ++ [(p', m')]) := by
              have h1 := (H8.out.below hb).alloc ob
              rw [HT.out] at h1
              exact ⟨h1.rd, h1.num, h1.tak, L0.out.on.two h1.on⟩
            exact JL.put hJ hD hnr hmr hdr hdg hdn hdm hown hg hat : LnkE B w rb g nb mb c0 c1 (.slice dv n dcap) x e ns (ks ++ [(p, m)] ++ [(p', m')]) n (xs ++ [.int .i64 a1, .string (tx n1), .int .i64 a2, .string (tx n2)]) (.slice (some ⟨g3, 0, none⟩) (n + 1) cap3) (w3.setCell ⟨rb, 2, none⟩ (.slice (some ⟨g3, 0, none⟩) (n + 1) cap3))))
          have HZZ := hid (fun (w9 w3 : World) (ob : Obj) (hb : Below w8.heap.size w8 w9) (hg : (w9.alloc ob).grownBy w3 (Value.slice dv n dcap).ownBlock) => (by
            have h9 := hb.size
            have h8 := GW.out.size
            have e0 : ∀ k, k < w8.heap.size → (Value.slice dv n dcap).ownBlock ≠ some k → w3.heap[k]? = w8.heap[k]? := fun k hk hne => (hg.block k (by simp only [World.size_alloc]; omega) (fun e => hne e.symm)).trans ((Below.heap_alloc _ _ _ (by omega)).trans (hb.block k hk))
            have e1 := e0 rb hrl8 hdr
            have e2 := e0 kb hk8l hkd.1
            have e3 := e0 qb hq8l hkd.2
            exact ⟨⟨(World.cell?_of_block (by exact e1)).trans j2, (World.frozen?_of_block (by exact e1)).trans jf2⟩, (World.cell?_of_block (by exact e2)).trans u0, (World.cell?_of_block (by exact e2)).trans u1, (World.cell?_of_block (by exact e3)).trans s0, (World.cell?_of_block (by exact e3)).trans s1⟩ : (w3.cell? ⟨rb, 2, none⟩ = some (.slice dv n dcap) ∧ w3.frozen? ⟨rb, 2, none⟩ = false) ∧ w3.cell? ⟨kb, 0, none⟩ = some (.int .i64 p) ∧ w3.cell? ⟨kb, 1, none⟩ = some (.string (tx m)) ∧ w3.cell? ⟨qb, 0, none⟩ = some (.int .i64 p') ∧ w3.cell? ⟨qb, 1, none⟩ = some (.string (tx m'))))
          have hkr : ¬ kb = rb := by have := HK.out; omega
          have hqr : ¬ qb = rb := by have := HQ.out; omega
          clear hkq hkd
          go_wp2_with fail
          go_region_law (first | (refine step_append_lies _ (by rfl) (.tmp 38) (.tmp 42) 23 (by rfl) B 83 i0 (.agg #[.int .i64 0, .string (tx []), .int .i64 0, .string (tx [])]) 4 48 Tryz.underlying23 HI.out HZ0.out HZ1.out HZ2.out rfl (by decide) (.slice dv n dcap) n xs (by rfl) (by exact HRO.out w9 _ HB9.out) ⟨w9.heap.size, 0, none⟩ 1 1 [.int .i64 a1, .string (tx n1), .int .i64 a2, .string (tx n2)] (by rfl) (by rfl) (by exact new_cells w9 #[.int .i64 a1, .string (tx n1), .int .i64 a2, .string (tx n2)] _ _ rfl) (by simp [Value.oneCell']) (by omega) (by unfold maxLen; omega) (by omega) (by exact HBW.out w9 _ HB9.out) _ (by rfl) ?_; intro g3 cap3 w3 hown3 hgrow3 hat3 hlt3; have F3 := hid (HFIN.out w9 w3 _ g3 cap3 HB9.out hown3 hgrow3 hat3); obtain ⟨⟨z1, z2⟩, S3⟩ := HZZ.out w9 w3 _ HB9.out hgrow3) | (go_simp; go_at_call 98; refine (HJN.out _).mono ?_; rintro en w9 ⟨rfl, hb9⟩; have HB9 := hid (show Below w8.heap.size w8 w9 from ⟨hb9.os, hb9.tape, hb9.output, hb9.size, hb9.block⟩); obtain ⟨z9, y0, y1, y2, y3⟩ := HS9.out w9 HB9.out; have r9 : rb < w9.heap.size := cell_ltJ z9))
          all_goals (
            go_wp2
            refine bodyPost_end (v := .tuple #[]) (by simp [results, Tryz.results94, go_sem]) rfl ?_
            obtain ⟨f1, f2, f3, f4, f5, f6, f7, f8, f9, f10⟩ := F3.out
            exact Or.inl ⟨(p, m), (p', m'), _, by rw [HR2.out, HR3.out, lnkB_ok, if_neg (fun q => q HT.out), if_neg (HB3.out.1 HB4.out)], rfl, f1, f2, f3, by rw [HLC.out]; exact f4, f5, f6, f7, f8, f9, f10⟩)
        · exact ⟨rfl, Or.inr ⟨_, by rw [HR2.out, HR3.out, lnkB_ok, if_pos HT.out], JGav2.after ⟨q, rfl, hf, hg⟩ (L0.out.on.two L6.out.on)⟩⟩
      · exact ⟨rfl, Or.inr ⟨_, by rw [HR2.out, HR3.out]; rfl, JGav2.after ⟨q, rfl, hf, hg⟩ L0.out.on⟩⟩
    · exact ⟨rfl, Or.inr ⟨_, by rw [HRR.out, HR1.out, lnkA_ok, if_pos (by rw [← HY.out]; have := HBB.out; rw [HB1.out] at this; simpa using this.symm), ← HY.out], JGav2.after ⟨q, rfl, hf, hg⟩ L0.out.on⟩⟩
  · exact ⟨rfl, Or.inr ⟨_, by rw [HRR.out, HR1.out]; rfl, q, rfl, hf, hg⟩⟩
end Go.Proofs.YtebaopiedlioiaaGreatDoor
namespace Go.Proofs.YtebaopiedlioiaaGreatDoor
open Go.Sort

/-- A call that lays blocks of its own and draws: the world in the library's form. -/
theorem grow_of_below {w w' : World} (h : Go.RowKit.Below w.heap.size w w') (hd : w.drawn ≤ w'.drawn) : ∃ q os, w' = grow (w.drewN q) os := by
  refine ⟨w'.drawn - w.drawn, w'.heap.extract w.heap.size w'.heap.size, ?_⟩
  have hs := h.size
  have hh : w'.heap = w.heap ++ w'.heap.extract w.heap.size w'.heap.size := by
    apply Array.ext_getElem?
    intro i
    by_cases hi : i < w.heap.size
    · rw [h.block i hi, Array.getElem?_append_left hi]
    · rw [Array.getElem?_append_right (by omega), Array.getElem?_extract]
      by_cases h2 : i < w'.heap.size
      · rw [if_pos (by omega), show w.heap.size + (i - w.heap.size) = i by omega]
      · rw [if_neg (by omega), Array.getElem?_eq_none (by omega)]
  have h1 := h.os
  have h2 := h.tape
  have h3 := h.output
  obtain ⟨heap, tape, drawn, os, output⟩ := w'
  obtain ⟨heap0, tape0, drawn0, os0, output0⟩ := w
  simp only at *
  subst h1 h2 h3
  unfold grow World.drewN
  simp only [World.mk.injEq, and_true, true_and]
  exact ⟨hh, by omega⟩

theorem flat_at {α : Type} {enc : α → List Value} {k : Nat} (hk : ∀ x, (enc x).length = k) : ∀ (l : List α) (i c : Nat), c < k → (l.flatMap enc)[i * k + c]? = (l[i]?).bind fun x => (enc x)[c]?
  | [], i, c, hc => by simp
  | a :: t, 0, c, hc => by
    rw [List.flatMap_cons, Nat.zero_mul, Nat.zero_add, List.getElem?_append_left (by rw [hk]; exact hc)]
    rfl
  | a :: t, i + 1, c, hc => by
    rw [List.flatMap_cons, List.getElem?_append_right (by rw [hk, Nat.add_mul]; omega), hk, show (i + 1) * k + c - k = i * k + c by rw [Nat.add_mul]; omega, flat_at hk t i c hc]
    rfl
theorem flat_len {α : Type} {enc : α → List Value} {k : Nat} (hk : ∀ x, (enc x).length = k) (l : List α) : (l.flatMap enc).length = l.length * k := by
  induction l with
  | nil => simp
  | cons a t ih => rw [List.flatMap_cons, List.length_append, ih, hk, List.length_cons, Nat.add_mul]; omega
theorem flatK_eq {α : Type} [Inhabited α] {enc : α → List Value} {k : Nat} (hk : ∀ x, (enc x).length = k) (h0 : 0 < k) (l : List α) : (flatK enc k l.toArray).toList = l.flatMap enc := by
  apply List.ext_getElem?
  intro t
  by_cases ht : t < l.length * k
  · have hi : t / k < l.length := (Nat.div_lt_iff_lt_mul h0).2 ht
    have hc : t % k < k := Nat.mod_lt _ h0
    have e : (l.flatMap enc)[t]? = (l[t / k]?).bind fun x => (enc x)[t % k]? := by
      have := flat_at hk l (t / k) (t % k) hc
      rwa [Nat.mul_comm, Nat.div_add_mod] at this
    rw [e, List.getElem?_eq_getElem hi, Option.bind_some, List.getElem?_eq_getElem (l := enc l[t / k]) (by rw [hk]; exact hc)]
    have hs : t < (flatK enc k l.toArray).size := by simpa using ht
    rw [Array.getElem?_toList, Array.getElem?_eq_getElem hs, ← getElem!_pos _ t hs, get_flatK _ _ _ _ (by simpa using ht)]
    have h1 : (l.toArray[t / k]! : α) = l[t / k] := by simp [hi]
    rw [h1, getElem!_pos _ _ (by rw [hk]; exact hc)]
  · rw [List.getElem?_eq_none (by simpa using ht), List.getElem?_eq_none (by rw [flat_len hk]; omega)]
/-- A row of one's own holds its elements, in the library's form. -/
theorem own_holdsK {α : Type} [Inhabited α] {w : World} {B : Nat} {e : TypeId} {k n g cap : Nat} {enc : α → List Value} (hk : ∀ x, (enc x).length = k) (h0 : 0 < k) {l : List α} (h : w.ownsRow B e k (.slice (some ⟨g, 0, none⟩) n cap) n (l.flatMap enc)) : HoldsK enc k w g 0 l.toArray := by
  obtain ⟨h1, ⟨h2, -⟩ | ⟨g', cap', cur, h2, h3, h4, h5, h6, h7, h8⟩⟩ := h
  · simp at h2
  · injection h2 with h2 _ h9
    injection h2 with h2
    injection h2 with h2
    subst h2
    intro j hj
    have hj' : j < n * k := by rw [← h1, ← flatK_eq hk h0]; simpa using hj
    refine ⟨?_, by simp [World.frozen?, h4]⟩
    have e1 : cur[j]? = (flatK enc k l.toArray)[j]? := by
      rw [← Array.getElem?_toList (xs := flatK enc k l.toArray), flatK_eq hk h0, ← h8, List.getElem?_take_of_lt hj', Array.getElem?_toList]
    simp only [World.cell?, h4, Nat.zero_add, id]
    rw [if_neg (by simp), e1, Array.getElem?_eq_getElem hj, getElem!_pos _ j hj]
/-- A row of one's own that was sorted. -/
theorem sortK_own {α : Type} [Inhabited α] {w : World} {B : Nat} {e : TypeId} {k n g cap : Nat} {xs : List Value} {enc : α → List Value} (hk : ∀ x, (enc x).length = k) (h0 : 0 < k) (h : w.ownsRow B e k (.slice (some ⟨g, 0, none⟩) n cap) n xs) (l : List α) (hl : l.length = n) (m : Nat) (os : Array Obj) :
    (sortWorldK enc k w g 0 m l.toArray os).ownsRow B e k (.slice (some ⟨g, 0, none⟩) n cap) n (l.flatMap enc) ∧ w.grownBy (sortWorldK enc k w g 0 m l.toArray os) (some g) := by
  have hW : ∀ i, i < w.heap.size → (sortWorldK enc k w g 0 m l.toArray os).heap[i]? = (putRow id (Sort.ahead w m) g 0 (flatK enc k l.toArray)).heap[i]? := fun i hi => by
    show ((putRow id (Sort.ahead w m) g 0 (flatK enc k l.toArray)).heap ++ os)[i]? = _
    rw [Array.getElem?_append_left (by rw [size_putRow]; exact hi)]
  constructor
  · obtain ⟨h1, ⟨h2, -⟩ | ⟨g', cap', cur, h2, h3, h4, h5, h6, h7, h8⟩⟩ := h
    · simp at h2
    · injection h2 with h2 _ h9
      injection h2 with h2
      injection h2 with h2
      subst h2 h9
      have hg : g < w.heap.size := (Array.getElem?_eq_some_iff.1 h4).1
      refine ⟨by rw [flat_len hk, hl], Or.inr ⟨g, cap, putCells id 0 (flatK enc k l.toArray) cur, rfl, h3, ?_, h5, h6, by unfold putCells; simpa using h7, ?_⟩⟩
      · rw [hW g hg]
        show (mapBlock (Sort.ahead w m) g (putCells id 0 (flatK enc k l.toArray))).heap[g]? = _
        have h4' : (Sort.ahead w m).heap[g]? = some (.cells cur e (0, 0)) := h4
        unfold mapBlock
        simp only [Array.getElem?_modify, h4', if_true, Option.map_some]
        rfl
      · apply List.ext_getElem?
        intro t
        have hnk : n * k ≤ cap * k := Nat.mul_le_mul_right k h5
        by_cases ht : t < n * k
        · rw [List.getElem?_take_of_lt ht, Array.getElem?_toList, ← flatK_eq hk h0, Array.getElem?_toList]
          unfold putCells
          have hs : t < (flatK enc k l.toArray).size := by simpa [hl] using ht
          rw [Array.getElem?_mapIdx, Array.getElem?_eq_getElem (show t < cur.size by omega)]
          simp only [Option.map_some, Nat.zero_le, Nat.zero_add, hs, and_self, if_true, Nat.sub_zero, id]
          rw [Array.getElem?_eq_getElem hs, getElem!_pos _ t hs]
        · rw [List.getElem?_eq_none (by rw [List.length_take]; omega), List.getElem?_eq_none (by rw [flat_len hk, hl]; omega)]
  · refine ⟨rfl, rfl, rfl, by simp [sortWorldK, grow, putRowK, putRow, mapBlock, Sort.ahead], fun i hi hne => ?_⟩
    rw [hW i hi]
    show (mapBlock (Sort.ahead w m) g _).heap[i]? = _
    unfold mapBlock
    simp only [Array.getElem?_modify]
    rw [if_neg (fun e => hne (by rw [e]))]
    rfl
end Go.Proofs.YtebaopiedlioiaaGreatDoor
