/-
  The document's Print of any topology.
  Devices in rows of one's own: one more is read.
  The reader of topologies: device, both ways.
-/
import Derived.Test.YtebaopiedlioiaaGreatDoorWLSayAnd
import Derived.Test.YtebaopiedlioiaaGreatDoorJItoaAnd
import Derived.Test.YtebaopiedlioiaaGreatDoorJDocNAnd
namespace Go.Proofs.YtebaopiedlioiaaGreatDoor
open Go.RowKit Go
open Wo (Wd)

/-- What device leaves. -/
def DevQ (B : Nat) (w : World) (rb g nb : Nat) (c0 c1 c2 c4 : Value) (x e : Wd) (ns : List (List UInt8)) (n : Nat) (xs : List Value) (r : Except Ru.Ft To.Dv) (en : Ending) (w' : World) : Prop :=
  (∃ d vc vp v', r = .ok d ∧ en = .returned (.tuple #[]) ∧ JRd w' rb g c0 v' c2 (.map (some nb)) c4 x [] e ∧ NumAt w' nb (ns ++ [d.name]) ∧ w'.ownsRow B 80 3 v' (n + 1) (xs ++ [.string (tx d.name), vc, vp]) ∧ w'.ownsRow w.heap.size 9 1 vc d.cls.length (svs d.cls) ∧ w'.ownsRow w.heap.size 9 1 vp d.prt.length (svs d.prt) ∧ (v'.ownBlock = c1.ownBlock ∨ ∃ k, w.heap.size ≤ k ∧ v'.ownBlock = some k) ∧ w.heap.size ≤ w'.heap.size ∧ w'.os = w.os ∧ w'.tape = w.tape ∧ w'.output = w.output ∧ ∀ k, k < w.heap.size → k ≠ rb → k ≠ nb → c1.ownBlock ≠ some k → w'.heap[k]? = w.heap[k]?) ∨ (∃ f, r = .error f ∧ JGave w rb f en w')

theorem Tryz.infoDevJ : (Tryz.prog.info? 80).map (fun i => (i.zero, i.size, i.bytes)) = some (some (.agg #[.string (tx []), .slice none 0 0, .slice none 0 0]), 3, 64) := by kernel_rfl
theorem new_atJ {w : World} (o : Obj) {k : Nat} (h : k = w.heap.size) : (w.alloc o).heap[k]? = some o := by
  subst h; exact new_0 _ _

set_option maxRecDepth 20000 in
set_option maxHeartbeats 1000000 in
theorem odevice_any {w : World} {rb g nb : Nat} {c0 c1 c2 c4 : Value} {x : Wd} {l : List Wd} {e : Wd} {ns : List (List UInt8)} (h : JRd w rb g c0 c1 c2 (.map (some nb)) c4 x l e) (hs : ShortJ e l) (hN : NumAt w nb ns) (hnr : nb ≠ rb) (hng : nb ≠ g) {B n : Nat} {xs : List Value} (hD : w.ownsRow B 80 3 c1 n xs) (hnn : n = ns.length) (hn : n ≤ 1000) (hdr : c1.ownBlock ≠ some rb) (hdg : c1.ownBlock ≠ some g) (hdn : c1.ownBlock ≠ some nb) (hB : B ≤ w.heap.size) :
    Calls Tryz.prog 93 #[.pointer (some ⟨rb, 0, none⟩)] w fun en w' => DevQ B w rb g nb c0 c1 c2 c4 x e ns n xs (To.dev x e ns l) en w' := by
  obtain ⟨dv, dcap, rfl⟩ := own_formJ hD
  obtain ⟨i0, hi, hz0, hz1, hz2⟩ := info_parts Tryz.infoDevJ
  have HI := hid hi
  have HZ0 := hid hz0
  have HZ1 := hid hz1
  have HZ2 := hid hz2
  clear hi hz0 hz1 hz2
  have hrl := h.lt
  have hgl := h.gl.1
  have HSH := hid hs
  have HN := hid (oname_on (JOn.start h) hs.nx)
  obtain ⟨y, hy⟩ : ∃ y, y = Ru.nx e l := ⟨_, rfl⟩
  have hyl := hs.nx
  have HDV : Hid (To.dev x e ns l = if Wo.nameB y.1 = false then .error (Ru.ft y 31) else if y.1 ∈ ns then .error (Ru.ft y 111) else To.devA x e n y.1 (To.opt e 16 To.classT l.tail)) := by rw [hy, hnn]; rfl
  rw [← hy] at HN hyl
  have HNT := hid hN
  have HDT := hid hD
  have HNM := hid (fun (W : World) (hj : JOn w W rb g c0 (.slice dv n dcap) c2 (.map (some nb)) c4 x l.tail e) => (show NumAt W nb ns from hN.same (hj.on.block nb hN.lt (fun q => hnr (by injection q)))))
  have HLK := hid (fun (W : World) (hj : JOn w W rb g c0 (.slice dv n dcap) c2 (.map (some nb)) c4 x l.tail e) => (HNM.out W hj).look hyl)
  have HZ := hid (numO_zero ns y.1)
  obtain ⟨z, hz⟩ : ∃ z, z = (numO ns y.1).getD 0 := ⟨_, rfl⟩
  rw [← hz] at HLK HZ
  obtain ⟨b, hb⟩ : ∃ b, b = (z == 0) := ⟨_, rfl⟩
  rw [← hb] at HZ
  have hbq := hb.symm
  have HNN := hid hnn
  clear h hs hN hy hz hb hD hnn
  go_enter Tryz.func93, Tryz.ntmps93
  go_wp2_with fail
  refine HN.out.mono ?_
  rintro en w1 (⟨HB, rfl, H1⟩ | ⟨HB, q, rfl, hf, hg⟩)
  · have H2 := hid ((H1.out.alloc (wob y)).drew)
    have hlk := HLK.out _ H2.out
    obtain ⟨o, cap, ⟨-, -, -, k3, -⟩, -⟩ := (H1.out.alloc (wob y)).rd.cells
    go_wp2_with fail
    go_region_held2 (fun w' => w'.cell? ⟨w1.heap.size, 0, none⟩ = some (.string (tx y.1)) ∧ w'.cell? ⟨w1.heap.size, 1, none⟩ = some (.int .i64 y.2.1) ∧ w'.cell? ⟨w1.heap.size, 2, none⟩ = some (.int .i64 y.2.2) ∧ w'.cell? ⟨rb, 3, none⟩ = some (.map (some nb))) (first | (go_keep; done) | exact ⟨by go_keep, by go_keep, by go_keep, k3⟩) (first | (go_at_call 56; refine (omust_on H2.out b y 111).mono ?_; rintro en w2 (⟨HB2, rfl, rfl⟩ | ⟨HB2, q, rfl, hf, hg⟩); rotate_left; (exact ⟨rfl, Or.inr ⟨_, by rw [HDV.out, if_neg (by rw [HB.out]; simp), if_pos (HZ.out.2.1 HB2.out)], q, rfl, hf, hg⟩⟩)))
    have HDW := hid (show To.dev x e ns l = To.devA x e n y.1 (To.opt e 16 To.classT l.tail) by rw [HDV.out, if_neg (by rw [HB.out]; simp), if_neg (HZ.out.1.1 HB2.out)])
    have I0 := hid (show DvI w rb g (w1.heap.size + 1 + 1) c0 (.slice dv n dcap) c2 (.map (some nb)) c4 x e y.1 (.slice none 0 0) (.slice none 0 0) [] [] l.tail ((((w1.alloc (wob y)).alloc (wob y)).alloc (dob y.1 (.slice none 0 0) (.slice none 0 0))).drew) from ⟨(((H1.out.alloc _).alloc _).alloc _).drew, new_atJ (w := (w1.alloc (wob y)).alloc (wob y)) _ (by simp only [World.size_alloc]), by have := H1.out.on.size; omega, World.ownsRow_nil _ _ _ _, World.ownsRow_nil _ _ _ _, HSH.out.tail⟩)
    have HPC := hid (opassed_on (JOn.start I0.out.rd.rd) To.classT)
    obtain ⟨b1, hb1⟩ : ∃ b, b = decide ((Ru.nx e l.tail).1 = To.classT) := ⟨_, rfl⟩
    rw [← hb1] at HPC
    have HB1 := hid hb1
    clear hb1 hlk k3
    go_wp2_with fail
    refine HPC.out.mono ?_
    rintro en w4 ⟨rfl, H4⟩
    have I4 := hid (I0.out.on H4.out hrl (by split; exact HSH.out.tail.tail; exact HSH.out.tail))
    clear H4 I0 HPC H2
    obtain ⟨kb, hkb⟩ : ∃ kb, kb = w1.heap.size + 1 + 1 := ⟨_, rfl⟩
    rw [← hkb] at I4 ⊢
    clear hkb
    go_upto_if 21 with fail
    go_cut [] (fun wx => Hid (∃ vc cs t, To.opt e 16 To.classT l.tail = .ok (cs, t) ∧ DvI w rb g kb c0 (.slice dv n dcap) c2 (.map (some nb)) c4 x e y.1 vc (.slice none 0 0) cs [] t wx))
    case first =>
      cases b1 with
      | true =>
        have hc : (Ru.nx e l.tail).1 = To.classT := of_decide_eq_true HB1.out.symm
        rw [if_pos hc] at I4
        have HOP := hid (show To.opt e 16 To.classT l.tail = To.lst e 16 l.tail.tail [] from if_pos hc)
        have HLL := hid (olist_on (most := 16) I4.out hrl (by omega))
        clear hc
        go_wp2_with fail
        refine HLL.out.mono ?_
        rintro en w5 (⟨cs, t, v, HL, rfl, H5⟩ | ⟨f, HL, q, rfl, hf, hg⟩)
        · obtain ⟨va, vk, rfl⟩ := own_formJ H5.out.2
          have q1 : w5.cell? ⟨kb, 1, none⟩ = some (.slice none 0 0) := by rw [cell_at H5.out.1.box]; rfl
          have q2 : w5.frozen? ⟨kb, 1, none⟩ = false := free_of H5.out.1.box
          have H6 := hid (H5.out.1.setC H5.out.2 hrl hgl)
          go_wp2
          go_meet
          exact hid ⟨_, _, _, HOP.out.trans HL.out, H6.out⟩
        · exact ⟨rfl, Or.inr ⟨f, by rw [HDW.out, HOP.out, HL.out]; rfl, q, rfl, hf, hg⟩⟩
      | false =>
        have hc : ¬ (Ru.nx e l.tail).1 = To.classT := of_decide_eq_false HB1.out.symm
        rw [if_neg hc] at I4
        have HOP := hid (show To.opt e 16 To.classT l.tail = .ok ([], l.tail) from if_neg hc)
        clear hc
        go_wp2
        go_meet
        exact hid ⟨_, _, _, HOP.out, I4.out⟩
    case rest =>
      obtain ⟨vc, cs, t, hop, hI⟩ := hcut.out
      have HDX := hid (show To.dev x e ns l = To.devB x e n y.1 cs (To.opt e 64 To.portT t) by rw [HDW.out, hop]; rfl)
      have I5 := hid hI
      have HPC := hid (opassed_on (JOn.start hI.rd.rd) To.portT)
      obtain ⟨b2, hb2⟩ : ∃ b, b = decide ((Ru.nx e t).1 = To.portT) := ⟨_, rfl⟩
      rw [← hb2] at HPC
      have HB3 := hid hb2
      clear hb2 hI hop hcut I4 HB1
      go_wp2_with fail
      refine HPC.out.mono ?_
      rintro en w5 ⟨rfl, H5⟩
      have I6 := hid (I5.out.on H5.out hrl (by split; exact I5.out.short.tail; exact I5.out.short))
      clear H5 HPC
      go_upto_if 26 with fail
      go_cut [] (fun wx => Hid (∃ vp ps t', To.opt e 64 To.portT t = .ok (ps, t') ∧ DvI w rb g kb c0 (.slice dv n dcap) c2 (.map (some nb)) c4 x e y.1 vc vp cs ps t' wx))
      case first =>
        cases b2 with
        | true =>
          have hc : (Ru.nx e t).1 = To.portT := of_decide_eq_true HB3.out.symm
          rw [if_pos hc] at I6
          have HOP := hid (show To.opt e 64 To.portT t = To.lst e 64 t.tail [] from if_pos hc)
          have HLL := hid (olist_on (most := 64) I6.out hrl (by omega))
          clear hc
          go_wp2_with fail
          refine HLL.out.mono ?_
          rintro en w6 (⟨ps, t', v, HL, rfl, H5⟩ | ⟨f, HL, q, rfl, hf, hg⟩)
          · obtain ⟨va, vk, rfl⟩ := own_formJ H5.out.2
            have q1 : w6.cell? ⟨kb, 2, none⟩ = some (.slice none 0 0) := by rw [cell_at H5.out.1.box]; rfl
            have q2 : w6.frozen? ⟨kb, 2, none⟩ = false := free_of H5.out.1.box
            have H6 := hid (H5.out.1.setP H5.out.2 hrl hgl)
            go_wp2
            go_meet
            exact hid ⟨_, _, _, HOP.out.trans HL.out, H6.out⟩
          · exact ⟨rfl, Or.inr ⟨f, by rw [HDX.out, HOP.out, HL.out]; rfl, q, rfl, hf, hg⟩⟩
        | false =>
          have hc : ¬ (Ru.nx e t).1 = To.portT := of_decide_eq_false HB3.out.symm
          rw [if_neg hc] at I6
          have HOP := hid (show To.opt e 64 To.portT t = .ok ([], t) from if_neg hc)
          clear hc
          go_wp2
          go_meet
          exact hid ⟨_, _, _, HOP.out, I6.out⟩
      case rest =>
        clear I5 I6 HB3
        obtain ⟨vp, ps, t', hop, hI⟩ := hcut.out
        have HDY := hid (show To.dev x e ns l = To.devB x e n y.1 cs (.ok (ps, t')) by rw [HDX.out, hop])
        have I7 := hid hI
        have HFI : Hid (Calls Tryz.prog 131 #[.pointer (some ⟨rb, 0, none⟩)] wc fun en w' => (Hid (t' = []) ∧ en = .returned (.tuple #[]) ∧ Hid (DvI w rb g kb c0 (.slice dv n dcap) c2 (.map (some nb)) c4 x e y.1 vc vp cs ps t' w')) ∨ (Hid (t' ≠ []) ∧ JGave w rb (Ru.ft (Ru.nx e t') 110) en w')) := hid ((ofinish_on (JOn.start hI.rd.rd)).mono fun en w' h => h.elim (fun h => Or.inl ⟨h.1, h.2.1, hid (hI.on h.2.2.out hrl hI.short)⟩) (fun h => Or.inr ⟨h.1, h.2.after hI.rd.on⟩))
        clear hI hop hcut
        go_wp2_with fail
        refine HFI.out.mono ?_
        rintro en w7 (⟨HT, rfl, I8⟩ | ⟨HT, q, rfl, hf, hg⟩)
        · have hT := HT.out
          subst hT
          obtain ⟨o, cap, ⟨-, k1, -, -, -⟩, ⟨k5, k6, k7⟩, -, -, kf, -⟩ := I8.out.rd.rd.cells
          have kf1 := kf 1
          obtain ⟨b3, hb3⟩ : ∃ b, b = decide (n < 256) := ⟨_, rfl⟩
          have hb3' := hb3.symm
          have hb4 : decide ((n : Int) < 256) = b3 := by rw [hb3, decide_eq_decide]; omega
          have HB3 := hid (show (b3 = true → ¬ 256 ≤ n) ∧ (b3 = false → 256 ≤ n) by
            rw [hb3]
            exact ⟨fun q => by have := of_decide_eq_true q; omega, fun q => by have := of_decide_eq_false q; omega⟩)
          have HE3 := hid (show b3 = false → To.dev x e ns l = .error (Ru.ft x 3) from fun q => by
            rw [HDY.out]
            exact if_pos (HB3.out.2 q))
          have HE4 := hid (show b3 = true → To.dev x e ns l = .ok ⟨y.1, cs, ps⟩ from fun q => by
            rw [HDY.out]
            exact if_neg (HB3.out.1 q))
          clear hb3 kf I7
          go_upto_region 8 with fail
          go_cut [] (fun wx => Hid (b3 = true ∧ DvI w rb g kb c0 (.slice dv n dcap) c2 (.map (some nb)) c4 x e y.1 vc vp cs ps [] wx))
          case first =>
            go_region_held2 (fun w' => w'.cell? ⟨rb, 1, none⟩ = some (.slice dv n dcap) ∧ w'.cell? ⟨rb, 5, none⟩ = some (.string (tx x.1)) ∧ w'.cell? ⟨rb, 6, none⟩ = some (.int .i64 x.2.1) ∧ w'.cell? ⟨rb, 7, none⟩ = some (.int .i64 x.2.2)) (go_keep) (first | (go_at_call 56; refine (omust_on I8.out.rd.drew b3 x 3).mono ?_; rintro en w8 (⟨HB4, rfl, rfl⟩ | ⟨HB4, q, rfl, hf, hg⟩); rotate_left; (exact ⟨rfl, Or.inr ⟨_, HE3.out HB4.out, q, rfl, hf, hg⟩⟩)))
            go_wp2_with fail
            go_meet
            exact hid ⟨HB4.out, I8.out.on (JOn.start (I8.out.rd.drew.alloc (wob x)).rd |> fun q => ⟨q.rd, grown_of_below _ (((Below.refl _ _).alloc (Nat.le_refl _) _).drew)⟩) hrl I8.out.short⟩
          case rest =>
            have HE5 := hid (HE4.out hcut.out.1)
            have I9 := hid hcut.out.2
            clear hcut k1 k5 k6 k7 kf1 hb3' hb4 HE3 HE4 HB3 I8
            obtain ⟨va, vk, rfl⟩ := own_formJ I9.out.cls
            obtain ⟨pa, pk, rfl⟩ := own_formJ I9.out.prt
            obtain ⟨nc, hnc⟩ : ∃ nc, nc = cs.length := ⟨_, rfl⟩
            obtain ⟨np, hnp⟩ : ∃ np, np = ps.length := ⟨_, rfl⟩
            rw [← hnc, ← hnp] at I9
            clear hnc hnp
            obtain ⟨o, cap, ⟨-, k1, -, -, -⟩, -, -, -, kf, -⟩ := I9.out.rd.rd.cells
            have kf1 := kf 1
            have q0 : wc.cell? ⟨kb, 0, none⟩ = some (.string (tx y.1)) := by rw [cell_at I9.out.box]; rfl
            have q1 : wc.cell? ⟨kb, 1, none⟩ = some (.slice va nc vk) := by rw [cell_at I9.out.box]; rfl
            have q2 : wc.cell? ⟨kb, 2, none⟩ = some (.slice pa np pk) := by rw [cell_at I9.out.box]; rfl
            have hkl := lt_of_block I9.out.box
            have hrw : rb < wc.heap.size := I9.out.rd.rd.lt
            have hws := I9.out.rd.on.size
            clear kf
            have HRO := hid (fun (ob : Obj) => (show (wc.alloc ob).drew.ownsRow B 80 3 (.slice dv n dcap) n xs from own_sameJ HDT.out fun k q => (Below.heap_alloc _ _ _ (by have := (HDT.out.lt k q).2; omega)).trans (I9.out.rd.on.block k (HDT.out.lt k q).2 (fun e => hdr (by rw [q]; exact e)))))
            have HBW := hid (fun (ob : Obj) => (show B ≤ (wc.alloc ob).drew.heap.size by show B ≤ (wc.alloc ob).heap.size; simp only [World.size_alloc]; omega))
            have HLB := hid (fun (ob : Obj) (w3 : World) (hg : (wc.alloc ob).drew.grownBy w3 (Value.slice dv n dcap).ownBlock) => (by
              have e : w3.heap[rb]? = wc.heap[rb]? := (hg.block rb (by show rb < (wc.alloc ob).heap.size; simp only [World.size_alloc]; omega) (fun e => hdr e.symm)).trans (Below.heap_alloc _ _ _ hrw)
              exact ⟨(World.cell?_of_block (by exact e)).trans k1, (World.frozen?_of_block (by exact e)).trans kf1⟩ : w3.cell? ⟨rb, 1, none⟩ = some (.slice dv n dcap) ∧ w3.frozen? ⟨rb, 1, none⟩ = false))
            have HFIN := hid (fun (ob : Obj) (w3 : World) (g3 cap3 : Nat) (hown : w3.ownsRow B 80 3 (.slice (some ⟨g3, 0, none⟩) (n + 1) cap3) (n + 1) (xs ++ [.string (tx y.1), .slice va nc vk, .slice pa np pk])) (hg : (wc.alloc ob).drew.grownBy w3 (Value.slice dv n dcap).ownBlock) (hat : (Value.slice dv n dcap).ownBlock = some g3 ∨ g3 = wc.heap.size + 1) => DvE.of (W := (wc.alloc ob).drew) (I9.out.on (JOn.start ((JOn.start I9.out.rd.rd).alloc ob).drew.rd |> fun q => ⟨q.rd, grown_of_below _ (((Below.refl _ _).alloc (Nat.le_refl _) _).drew)⟩) hrl I9.out.short) HNT.out HDT.out hnr hdr hdg hdn hrl hgl hown hg (by rcases hat with q | q; exact Or.inl q; exact Or.inr (by show g3 = (wc.alloc ob).heap.size; simp only [World.size_alloc]; exact q)))
            go_upto_region 9 with fail
            go_cut [] (fun wz => Hid (∃ v', DvE B w rb g kb nb c0 (.slice dv n dcap) c2 c4 x e y.1 (.slice va nc vk) (.slice pa np pk) cs ps ns n xs v' wz))
            case first =>
              go_region_law (refine step_append_lies _ (by rfl) (.tmp 50) (.tmp 52) 22 (by rfl) B 80 i0 (.agg #[.string (tx []), .slice none 0 0, .slice none 0 0]) 3 64 Tryz.underlying22 HI.out HZ0.out HZ1.out HZ2.out rfl (by decide) (.slice dv n dcap) n xs (by rfl) (by exact HRO.out _) ⟨wc.heap.size, 0, none⟩ 1 1 [.string (tx y.1), .slice va nc vk, .slice pa np pk] (by rfl) (by rfl) (by exact new_cells wc #[.string (tx y.1), .slice va nc vk, .slice pa np pk] _ _ rfl) (by simp [Value.oneCell']) (by omega) (by unfold maxLen; omega) (by omega) (by exact HBW.out _) (wc.heap.size + 1) (by simp) ?_; intro g3 cap3 w3 hown3 hgrow3 hat3 hlt3; obtain ⟨z1, z2⟩ := HLB.out _ w3 hgrow3)
              all_goals (
                have F1 := hid (HFIN.out _ _ _ _ hown3 hgrow3 hat3)
                clear hown3 hgrow3 hat3
                go_wp2_with fail
                go_meet
                exact hid ⟨_, F1.out⟩)
            case rest =>
              clear k1 kf1 q0 q1 q2 hkl hrw hws HRO HBW HLB HFIN
              obtain ⟨v', hE⟩ := hcut.out
              obtain ⟨av, ak, hv'⟩ := own_formJ hE.row
              subst hv'
              obtain ⟨w', r1, r2, r3⟩ := (show NumAt wc.drew nb ns from hE.num.same rfl).put hyl (HZ.out.1.1 HB2.out) (by have := HNN.out; omega)
              rw [← HNN.out] at r1
              obtain ⟨o, cap, ⟨-, k1, -, k3, -⟩, -⟩ := hE.rd.cells
              have q0 : wc.cell? ⟨kb, 0, none⟩ = some (.string (tx y.1)) := by rw [cell_at hE.box]; rfl
              have HFF := hid (show DevQ B w rb g nb c0 (.slice dv n dcap) c2 c4 x e ns n xs (To.dev x e ns l) (.returned (.tuple #[])) w' from by
                have hnl := HNT.out.lt
                have hk : ∀ k, k < wc.heap.size → k ≠ nb → w'.heap[k]? = wc.heap[k]? := fun k h1 h2 => r3.block k h1 (fun q => h2 (by injection q))
                have hs3 : wc.heap.size ≤ w'.heap.size := r3.size
                have hsz := hE.size
                refine Or.inl ⟨⟨y.1, cs, ps⟩, .slice va nc vk, .slice pa np pk, .slice av (n + 1) ak, HE5.out, rfl, hE.rd.grown (fun k q => hk k (by rcases q with rfl | rfl <;> omega) (by rcases q with rfl | rfl; exact fun q => hnr q.symm; exact fun q => hng q.symm)) hs3, r2, ?_, ?_, ?_, hE.at_, by omega, r3.os.trans hE.os, r3.tape.trans hE.tape, r3.output.trans hE.output, fun k h1 h2 h3 h4 => (hk k (by omega) h3).trans (hE.keep k h1 h2 h4)⟩
                · refine own_sameJ hE.row fun k q => hk k (hE.row.lt k q).2 ?_
                  rintro rfl
                  rcases hE.at_ with q2 | ⟨k2, q2, q3⟩
                  · exact hdn (by rw [← q2]; exact q)
                  · rw [q3] at q; injection q with q; omega
                · exact own_sameJ hE.cls fun k q => hk k (hE.cls.lt k q).2 (by have := (hE.cls.lt k q).1; omega)
                · exact own_sameJ hE.prt fun k q => hk k (hE.prt.lt k q).2 (by have := (hE.prt.lt k q).1; omega))
              clear hcut hE r2 r3
              go_wp2_with fail
              go_region
              go_wp2
              exact bodyPost_end (v := .tuple #[]) (by simp [results, Tryz.results93, go_sem]) rfl HFF.out
        · exact ⟨rfl, Or.inr ⟨_, by rw [HDY.out]; exact if_pos HT.out, q, rfl, hf, hg⟩⟩
  · exact ⟨rfl, Or.inr ⟨_, by rw [HDV.out, if_pos HB.out], q, rfl, hf, hg⟩⟩
end Go.Proofs.YtebaopiedlioiaaGreatDoor
namespace Go.Proofs.YtebaopiedlioiaaGreatDoor
open Go.RowKit
open Wo (Wd)

theorem own_blockJ {w : World} {B : Nat} {e : TypeId} {s : Nat} {v : Value} {n : Nat} {xs : List Value} (h : w.ownsRow B e s v n xs) {k : Nat} (hk : v.ownBlock = some k) : ∃ cur, w.heap[k]? = some (.cells cur e (0, 0)) := by
  obtain ⟨-, ⟨rfl, -⟩ | ⟨g, cap, cur, rfl, -, hb, -⟩⟩ := h
  · simp [Value.ownBlock] at hk
  · simp only [Value.ownBlock, Option.some.injEq] at hk
    subst hk
    exact ⟨cur, hb⟩
/-- Rows of two kinds have two blocks. -/
theorem own_apartJ {w : World} {B B' : Nat} {e e' : TypeId} {s s' : Nat} {v v' : Value} {n n' : Nat} {xs xs' : List Value} (h : w.ownsRow B e s v n xs) (h' : w.ownsRow B' e' s' v' n' xs') (he : e ≠ e') {k : Nat} (hk : v.ownBlock = some k) : v'.ownBlock ≠ some k := by
  intro q
  obtain ⟨c, h1⟩ := own_blockJ h hk
  obtain ⟨c', h2⟩ := own_blockJ h' q
  rw [h1] at h2
  injection h2 with h2
  injection h2 with _ h2 _
  exact he h2
theorem own_baseJ {w : World} {B B' : Nat} {e : TypeId} {s : Nat} {v : Value} {n : Nat} {xs : List Value} (h : w.ownsRow B e s v n xs) (hB : B' ≤ B) : w.ownsRow B' e s v n xs := by
  obtain ⟨h0, h | ⟨g, cap, cur, h1, h2, h3⟩⟩ := h
  · exact ⟨h0, Or.inl h⟩
  · exact ⟨h0, Or.inr ⟨g, cap, cur, h1, Nat.le_trans hB h2, h3⟩⟩
theorem flatD_snoc (ds : List (To.Dv × Value × Value)) (q : To.Dv × Value × Value) : flatD (ds ++ [q]) = flatD ds ++ [.string (tx q.1.name), q.2.1, q.2.2] := by
  unfold flatD
  rw [List.flatMap_append]
  rfl
theorem Tryz.devNeJ : (9 : TypeId) ≠ 80 := by decide
/-- One more device, as device leaves it. -/
theorem DvO.snoc {B rb nb : Nat} {w w' : World} {v v' vc vp : Value} {ds : List (To.Dv × Value × Value)} {d : To.Dv} (h : DvO B w v ds) (hr : rb < B) (hn : nb < B) (hB : B ≤ w.heap.size) (h1 : w'.ownsRow B 80 3 v' (ds.length + 1) (flatD ds ++ [.string (tx d.name), vc, vp])) (h2 : w'.ownsRow w.heap.size 9 1 vc d.cls.length (svs d.cls)) (h3 : w'.ownsRow w.heap.size 9 1 vp d.prt.length (svs d.prt)) (hk : ∀ k, k < w.heap.size → k ≠ rb → k ≠ nb → v.ownBlock ≠ some k → w'.heap[k]? = w.heap[k]?) : DvO B w' v' (ds ++ [(d, vc, vp)]) := by
  have ho : ∀ (u : Value) (n : Nat) (xs : List Value), w.ownsRow B 9 1 u n xs → w'.ownsRow B 9 1 u n xs := fun u n xs hu => own_sameJ hu fun k q => hk k (hu.lt k q).2 (by have := (hu.lt k q).1; omega) (by have := (hu.lt k q).1; omega) (own_apartJ hu h.row Tryz.devNeJ q)
  refine ⟨by rw [flatD_snoc, List.length_append, List.length_singleton]; exact h1, fun q hq => ?_, fun q hq => ?_⟩
  · rcases List.mem_append.1 hq with hq | hq
    · exact ho _ _ _ (h.cls q hq)
    · rw [List.mem_singleton.1 hq]; exact own_baseJ h2 hB
  · rcases List.mem_append.1 hq with hq | hq
    · exact ho _ _ _ (h.prt q hq)
    · rw [List.mem_singleton.1 hq]; exact own_baseJ h3 hB
theorem DvO.nil (B : Nat) (w : World) : DvO B w (.slice none 0 0) [] := ⟨World.ownsRow_nil _ _ _ _, fun q hq => by simp at hq, fun q hq => by simp at hq⟩
end Go.Proofs.YtebaopiedlioiaaGreatDoor
namespace Go.Proofs.YtebaopiedlioiaaGreatDoor
open Go.RowKit

theorem TpI.grownR {w : World} {wd vd vl : Value} {W W' : World} {r : Option Nat} (h : TpI w wd vd vl W) (hg : W.grownBy W' r) (hr : ∀ k, r = some k → w.heap.size < k) : TpI w wd vd vl W' :=
  ⟨(hg.block _ (lt_of_block h.top) (fun q => by have := hr _ q.symm; omega)).trans h.top, ⟨hg.os.trans h.below.os, hg.tape.trans h.below.tape, hg.output.trans h.below.output, Nat.le_trans h.below.size hg.size, fun i hi => (hg.block i (Nat.lt_of_lt_of_le hi h.below.size) (fun q => by have := hr _ q.symm; omega)).trans (h.below.block i hi)⟩⟩
/-- What stands while a topology's text is made. -/
structure TdI (w : World) (wd vd vl v : Value) (l : List UInt8) (W : World) : Prop where
  top : TpI w wd vd vl W
  byt : BytK W (w.heap.size + 1) v l
theorem TdI.on {w : World} {wd vd vl v : Value} {l : List UInt8} {W W' : World} (h : TdI w wd vd vl v l W) (hb : Below W.heap.size W W') : TdI w wd vd vl v l W' := ⟨h.top.on hb, h.byt.same fun k q => hb.block k (h.byt.lt k q).2⟩
theorem TdI.app {w : World} {wd vd vl v v' : Value} {l l' : List UInt8} {W W' : World} (h : TdI w wd vd vl v l W) (hg : W.grownBy W' v.ownBlock) (hk : BytK W' (w.heap.size + 1) v' l') : TdI w wd vd vl v' l' W' :=
  ⟨h.top.grownR hg (fun k q => by have := (h.byt.lt k q).1; omega), hk⟩
theorem TdI.lt {w : World} {wd vd vl v : Value} {l : List UInt8} {W : World} (h : TdI w wd vd vl v l W) : w.heap.size + 1 ≤ W.heap.size := lt_of_block h.top.top

set_option maxRecDepth 20000 in
set_option maxHeartbeats 8000000 in
theorem RPrintT_any {w : World} {wd : Int} {dv lv : Option Addr} {N dc M lc : Nat} {ds : List (To.Dv × Value × Value)} {ls : List LkZ} (hD : DvL w (.slice dv N dc) ds) (hL : LkV w (.slice lv M lc) ls) (hz : DvShort ds) (hdl : ds.length ≤ 1000) (hll : ls.length ≤ 100000) (hT : PowTab w) :
    Calls Tryz.prog 15 #[.agg #[.int .i64 wd, .slice dv N dc, .slice lv M lc]] w fun e w' => e = .returned (prtV wd (ds.map (·.1)) ls) ∧ Below w.heap.size w w' := by
  obtain ⟨W0, hW0⟩ : ∃ W0, W0 = w.alloc (topJ (.int .i64 wd) (.slice dv N dc) (.slice lv M lc)) := ⟨_, rfl⟩
  have I0 := hid (show TpI w (.int .i64 wd) (.slice dv N dc) (.slice lv M lc) W0 from by rw [hW0]; exact ⟨new_0 _ _, (Below.refl _ _).alloc (Nat.le_refl _) _⟩)
  have HC := hid (RCheckT_any (wd := wd) (hD.below I0.out.below) (hL.below I0.out.below) hz (Nat.le_trans hdl (by decide)) (Nat.le_trans hll (by decide)))
  obtain ⟨t0, t1, t2⟩ := topJ_cells I0.out.top
  cases hb : topB wd (ds.map (·.1)) ls with
  | false =>
    rw [chkT_bad hb] at HC
    have HE := hid (show prtV wd (ds.map (·.1)) ls = .tuple #[.string (tx []), .int .i64 113] by unfold prtV; rw [hb]; rfl)
    clear hb hD hL hz hT
    go_enter Tryz.func15, Tryz.ntmps15
    go_wp2_with fail
    rw [← hW0]
    clear hW0
    refine HC.out.mono ?_
    rintro en w1 ⟨rfl, hb1⟩
    have I1 := hid (I0.out.on hb1)
    go_wp2
    refine bodyPost_ret (v := .tuple #[.string (tx []), .int .i64 113]) (by simp [results, Tryz.results15, go_sem]) rfl ?_
    exact ⟨by rw [HE.out], I1.out.below⟩
  | true =>
  rw [chkT_good hb] at HC
  have HE := hid (show prtV wd (ds.map (·.1)) ls = .tuple #[.string (tx (tpT wd.toNat (ds.map (·.1)) ls)), .int .i64 0] by unfold prtV; rw [hb]; rfl)
  have hok := topB_ok hb
  obtain ⟨dv', dc', e, hdv⟩ := hD.form
  injection e with e1 e2 e3
  subst e1 e3
  obtain ⟨lv', lc', e, hlv⟩ := hL.form
  injection e with e4 e5 e6
  subst e4 e6
  have HD := hid hD
  have HDV := hid hdv
  have HLV := hid hlv
  have HN := hid e2
  have HM := hid e5
  have HOK := hid hok
  obtain ⟨wn, hwn⟩ : ∃ n : Nat, wd = (n : Int) := ⟨wd.toNat, by have := hok.w1; omega⟩
  subst hwn
  have hwn1 : wn ≤ 128 := by have := hok.w2; omega
  have hN4 : N ≤ 256 := by have := hok.d2; rw [List.length_map] at this; omega
  have hM4 : M ≤ 4096 := by have := hok.l2; omega
  rw [Int.toNat_natCast] at HE
  have HIT := hid (fun (W : World) (hb : Below w.heap.size w W) => Itoa_any wn (by omega) (hT.below hb))
  obtain ⟨es, hes⟩ : ∃ es, es = ds.map (·.1) := ⟨_, rfl⟩
  have HES := hid hes
  rw [← hes] at HOK HE ⊢
  clear hb hD hL hz hT hdv hlv e2 e5 hok hes hdl hll
  go_enter Tryz.func15, Tryz.ntmps15
  go_wp2_with fail
  rw [← hW0]
  clear hW0
  refine HC.out.mono ?_
  rintro en w1 ⟨rfl, hb1⟩
  have I1 := hid (I0.out.on hb1)
  clear t0 t1 t2 hb1 I0 HC
  obtain ⟨t0, t1, t2⟩ := topJ_cells I1.out.top
  go_wp2_with fail
  refine (HIT.out _ I1.out.below).mono ?_
  rintro en w2 ⟨rfl, hb2⟩
  have I2 := hid (I1.out.on hb2)
  clear t0 t1 t2 hb2 I1
  obtain ⟨W3, hW3⟩ : ∃ W3, W3 = w2.alloc (.cells #[.string ⟨#[119, 105, 100, 116, 104]⟩, .string (tx (Lib.decDigits wn))] 9 (0, 0)) := ⟨_, rfl⟩
  have I3 := hid (show TpI w (.int .i64 wn) (.slice dv N dc) (.slice lv M lc) W3 from I2.out.on (by rw [hW3]; exact (Below.refl _ _).alloc (Nat.le_refl _) _))
  have HS3 := hid (show Txs W3 (.slice (some ⟨w2.heap.size, 0, none⟩) 2 2) (wdW wn) from by
    refine ⟨_, 2, rfl, .inr ⟨w2.heap.size, 0, rfl, by rw [hW3]; simp, fun i hi => ?_⟩⟩
    rw [cell_at (show W3.heap[w2.heap.size]? = some (.cells #[.string ⟨#[119, 105, 100, 116, 104]⟩, .string (tx (Lib.decDigits wn))] 9 (0, 0)) by rw [hW3]; exact new_0 _ _)]
    have hi2 : i < 2 := hi
    rcases (by omega : i = 0 ∨ i = 1) with rfl | rfl <;> rfl)
  have HLW := hid (show ∀ z ∈ wdW wn, z.length ≤ 64 from fun z hz => by
    unfold wdW at hz
    simp only [List.mem_cons, List.not_mem_nil, or_false] at hz
    rcases hz with rfl | rfl
    · decide
    · have : ∀ n : Nat, n ≤ 128 → (Lib.decDigits n).length ≤ 64 := by decide +kernel
      exact this wn hwn1)
  have HSY3 := hid (RSay_anyX _ _ W3 HS3.out (by show 2 ≤ 100000; omega) (fun z hz => Nat.le_trans (HLW.out z hz) (by decide)))
  obtain ⟨S0, hS0⟩ : ∃ S, S = sayS (wdW wn) := ⟨_, rfl⟩
  have hS0l : S0.length ≤ 130 := by
    have := sayS_short HLW.out
    have h2 : (wdW wn).length = 2 := rfl
    rw [h2] at this
    rw [hS0]; exact this
  have HS0 := hid hS0
  rw [← hS0] at HSY3
  clear hS0 HS3 HLW
  go_wp2_with fail
  rw [← hW3]
  clear hW3
  refine HSY3.out.mono ?_
  rintro en w4 ⟨rfl, hb4⟩
  have I4 := hid (I3.out.on hb4)
  clear hb4 I2 I3 HSY3
  obtain ⟨v5, w5, hcv, hk5, hb5⟩ := conv_bytes w4 (S0 ++ [10]) (by rw [List.length_append]; unfold maxLen; simp only [List.length_cons, List.length_nil]; omega)
  have hov0 : ¬ 9223372036854775807 < S0.length + 1 := by omega
  rw [← tx_app] at hcv
  change (convert 9 87 (.string (tx S0 ++ ⟨#[10]⟩))).run Tryz.prog w4 = _ at hcv
  have J5 := hid (show TdI w (.int .i64 wn) (.slice dv N dc) (.slice lv M lc) v5 (S0 ++ [10]) w5 from ⟨I4.out.on hb5, by
    rcases hk5 with h | ⟨g, cap, cur, e, hg, r⟩
    · exact .inl (own_baseJ h (lt_of_block I4.out.top))
    · exact .inr ⟨g, cap, cur, e, Nat.le_trans (lt_of_block I4.out.top) hg, r⟩⟩)
  obtain ⟨vo, vc, hv5⟩ := hk5.form
  rw [hv5] at hcv J5
  obtain ⟨T0, hT0⟩ : ∃ T0, T0 = S0 ++ [10] := ⟨_, rfl⟩
  have HT0 := hid hT0
  have hT0l : T0.length ≤ 200 := by rw [hT0, List.length_append]; simp only [List.length_cons, List.length_nil]; omega
  rw [← hT0] at J5 hcv
  clear hT0 hk5 hb5 hv5 I4
  obtain ⟨t0, t1, t2⟩ := topJ_cells J5.out.top.top
  go_wp2_with fail
  clear hcv t0 t1 t2
  go_loopw [6, 7] (fun u i wr => ∃ (k : Nat) (v : Value), u = v ∧ i = .int .i64 k ∧ k ≤ N ∧ Hid (TdI w (.int .i64 wn) (.slice dv N dc) (.slice lv M lc) v (T0 ++ dvsT (es.take k)) wr)) (fun _ i _ => N - (intOf i).toNat)
  case atStart => exact ⟨0, _, rfl, rfl, Nat.zero_le _, by rw [List.take_zero, show dvsT [] = [] from rfl, List.append_nil]; exact J5⟩
  case round =>
    obtain ⟨k, v, rfl, rfl, hk, hI⟩ := hrel
    obtain ⟨bo, bc, rfl⟩ := hI.out.byt.form
    obtain ⟨t0, t1, t2⟩ := topJ_cells hI.out.top.top
    have hTl : (T0 ++ dvsT (es.take k)).length ≤ 90000000 := by
      have h1 := dvsT_len (es.take k) (fun d hd => HOK.out.dv d (List.mem_of_mem_take hd))
      have h2 : (es.take k).length ≤ 256 := by rw [List.length_take]; omega
      have h3 := Nat.mul_le_mul_right 10531 h2
      rw [List.length_append]
      omega
    by_cases hlt : k < N
    · obtain ⟨⟨qd, uv, pv⟩, hq⟩ : ∃ z, ds[k]? = some z := ⟨_, List.getElem?_eq_getElem (by have := HN.out; omega)⟩
      obtain ⟨D, od, rfl, hDl, hdc⟩ := HDV.out.resolve_left (fun e => by rw [e] at hq; simp at hq)
      obtain ⟨htc, -⟩ := HD.out.cls _ (List.mem_of_getElem? hq)
      obtain ⟨htp, -⟩ := HD.out.prt _ (List.mem_of_getElem? hq)
      simp only at htc htp
      have hek : es[k]? = some qd := by rw [HES.out, List.getElem?_map, hq]; rfl
      have HDO := hid (HOK.out.dv qd (List.mem_of_getElem? hek))
      have hwD : wr.heap[D]? = w.heap[D]? := hI.out.top.below.block D hDl
      obtain ⟨z0, z1, z2⟩ := hdc k _ hq
      have y0 := (World.cell?_of_block (a := ⟨D, od + k * 3, none⟩) hwD).trans z0
      have y1 := (World.cell?_of_block (a := ⟨D, od + k * 3 + 1, none⟩) hwD).trans z1
      have y2 := (World.cell?_of_block (a := ⟨D, od + k * 3 + 2, none⟩) hwD).trans z2
      simp only at y0 y1 y2
      have kI : (k : Int) < (N : Int) := by omega
      have k0I : (0 : Int) ≤ (k : Int) := by omega
      have HCC := hid (fun (W : World) (hb : Below w.heap.size w W) => htc.below hb)
      have HPP := hid (fun (W : World) (hb : Below w.heap.size w W) => htp.below hb)
      obtain ⟨ac, cc, hvc, -⟩ := id htc
      obtain ⟨ap, cp, hvp, -⟩ := id htp
      subst hvc; subst hvp
      have HSN := hid (show T0 ++ dvsT (es.take (k + 1)) = (T0 ++ dvsT (es.take k)) ++ (sayS (dvW qd) ++ [10]) by rw [dvsT_snoc hek]; simp)
      obtain ⟨T, hTT⟩ : ∃ T, T = T0 ++ dvsT (es.take k) := ⟨_, rfl⟩
      rw [← hTT] at HSN hTl hI ⊢
      obtain ⟨nT, hnT⟩ : ∃ n, n = T.length := ⟨_, rfl⟩
      rw [← hnT] at hTl hI ⊢
      have HNT := hid hnT
      obtain ⟨nm, hnm⟩ : ∃ nm, nm = qd.name := ⟨_, rfl⟩
      obtain ⟨Lc, hLc⟩ : ∃ L, L = qd.cls.length := ⟨_, rfl⟩
      obtain ⟨Lp, hLp⟩ : ∃ L, L = qd.prt.length := ⟨_, rfl⟩
      rw [← hLc] at HCC y1
      rw [← hLp] at HPP y2
      rw [← hnm] at y0
      obtain ⟨W5, hW5⟩ : ∃ W5, W5 = wr.alloc (dvOJ nm (.slice ac Lc cc) (.slice ap Lp cp)) := ⟨_, rfl⟩
      obtain ⟨kb, hkb⟩ : ∃ kb, kb = wr.heap.size := ⟨_, rfl⟩
      have I5 := hid (show TdI w (.int .i64 wn) (.slice (some ⟨D, od, none⟩) N dc) (.slice lv M lc) (.slice bo nT bc) T W5 from hI.out.on (by rw [hW5]; exact (Below.refl _ _).alloc (Nat.le_refl _) _))
      have H5 := hid (show W5.heap[kb]? = some (dvOJ nm (.slice ac Lc cc) (.slice ap Lp cp)) by rw [hW5, hkb]; exact new_0 _ _)
      obtain ⟨W6, hW6⟩ : ∃ W6, W6 = W5.alloc (.cells #[.string ⟨#[100, 101, 118, 105, 99, 101]⟩, .string (tx nm)] 9 (0, 0)) := ⟨_, rfl⟩
      obtain ⟨rb, hrb⟩ : ∃ rb, rb = W5.heap.size := ⟨_, rfl⟩
      have HRW := hid hrb
      have hb6 : Below W5.heap.size W5 W6 := by rw [hW6]; exact (Below.refl _ _).alloc (Nat.le_refl _) _
      have I6 := hid (I5.out.on hb6)
      have H6 := hid ((hb6.block _ (lt_of_block H5.out)).trans H5.out)
      have HRB := hid (show kb < rb by rw [hrb]; exact lt_of_block H5.out)
      have hrs : rb ≤ W6.heap.size := by rw [hrb]; exact hb6.size
      have HO6 := hid (show W6.ownsRow rb 9 1 (.slice (some ⟨rb, 0, none⟩) 2 2) [To.deviceT, nm].length (svs [To.deviceT, nm]) from
        ⟨rfl, Or.inr ⟨rb, 2, #[.string (tx To.deviceT), .string (tx nm)], rfl, Nat.le_refl _, by rw [hW6, hrb]; exact new_0 _ _, Nat.le_refl _, by decide, rfl, rfl⟩⟩)
      have HUP := hid (show ∀ W, Below rb W6 W → Below w.heap.size w W from fun W hb => I6.out.top.below.trans (hb.mono (by have := lt_of_block I5.out.top.top; omega)))
      have HR1 := hid (Rrow_any HO6.out hrs (fun W hb => HCC.out W (HUP.out W hb)) (by have := HDO.out.cn; omega) (by simp) To.classT)
      have HDW := hid (show ([To.deviceT, nm] ++ mkS To.classT qd.cls qd.cls.length) ++ mkS To.portT qd.prt qd.prt.length = dvW qd by rw [hnm]; rfl)
      clear hTT hLc hLp hdc z0 z1 z2 hwD htc htp hq hek hnm hnT hb6
      go_upto_region 9 with fail
      rw [← hW5, ← hkb]
      clear hW5 hkb y0 y1 y2 t0 t1 t2
      obtain ⟨r0, r1, r2⟩ := dvOJ_cells H5.out
      obtain ⟨q0, q1, q2⟩ := dvOJ_cells H6.out
      rw [hW6] at q0 q1 q2
      go_wp2_with fail
      rw [← hrb, ← hW6]
      clear r0 r1 r2 q0 q1 q2 hW6 hrb
      refine HR1.out.mono ?_
      rintro en w7 ⟨v7, rfl, hown7, hb7⟩
      have B7 := hid hb7
      have HO7 := hid hown7
      have HR2 := hid (Rrow_any (ns := qd.prt) HO7.out (by have := B7.out.size; omega) (fun W hb => HPP.out W (HUP.out W (B7.out.trans hb))) (by have := HDO.out.pn; omega) (by rw [List.length_append, mkS_len]; have := HDO.out.cn; simp; omega) To.portT)
      rw [HDW.out] at HR2
      have h7 := (hb7.block _ HRB.out).trans H6.out
      obtain ⟨r0, r1, r2⟩ := dvOJ_cells h7
      obtain ⟨a7, c7, rfl⟩ := own_formJ hown7
      clear hown7 hb7 h7 HR1
      go_wp2_with fail
      refine HR2.out.mono ?_
      rintro en w8 ⟨v8, rfl, hown8, hb8⟩
      have B8 := hid (B7.out.trans hb8)
      have HTX := hid (own_txsP hown8)
      have HSY := hid (RSay_anyX _ _ w8 HTX.out (Nat.le_trans (dvW_short HDO.out).2 (by decide)) (fun z hz => Nat.le_trans ((dvW_short HDO.out).1 z hz) (by decide)))
      obtain ⟨S1, hS1⟩ : ∃ S, S = sayS (dvW qd) := ⟨_, rfl⟩
      have hS1l : S1.length ≤ 20000 := by
        have h1 := sayS_short (dvW_short HDO.out).1
        have h2 := Nat.mul_le_mul_right 65 (dvW_short HDO.out).2
        rw [hS1]; omega
      rw [← hS1] at HSY HSN
      obtain ⟨a8, c8, rfl⟩ := own_formJ hown8
      clear hown8 hb8 hS1 r0 r1 r2 HR2
      go_wp2_with fail
      refine HSY.out.mono ?_
      rintro en w9 ⟨rfl, hb9⟩
      have I8 := hid (show TdI w (.int .i64 wn) (.slice (some ⟨D, od, none⟩) N dc) (.slice lv M lc) (.slice bo nT bc) T w8 from by
        have e : ∀ i, i < rb → w8.heap[i]? = W6.heap[i]? := fun i hi => B8.out.block i hi
        have hlt6 := I5.out.lt
        have hrw := HRW.out
        exact ⟨⟨(e _ (by have := HRB.out; have := lt_of_block I5.out.top.top; omega)).trans I6.out.top.top, HUP.out _ B8.out⟩, I6.out.byt.same fun i q => e i (by have := (I5.out.byt.lt i q).2; omega)⟩)
      have I9 := hid (I8.out.on hb9)
      have hov1 : ¬ 9223372036854775807 < S1.length + 1 := by omega
      have h19 := I9.out.lt
      clear hb9 I8 HSY
      go_wp2_with (first | (at_builtin; refine wpList_append_bytK (w := w9) rfl (.tmp 56) (.tmp 58) rfl (B := w.heap.size + 1) (v := .slice bo nT bc) (l := T) (t := S1 ++ [10]) rfl I9.out.byt (by rw [← tx_app]; rfl) (by rw [List.length_append, ← HNT.out]; simp only [List.length_cons, List.length_nil]; omega) h19 ?_))
      intro v10 w10 hk10 hg10
      rw [← HSN.out] at hk10
      have I10 := hid (I9.out.app hg10 hk10)
      clear hk10 hg10
      go_wp2
      go_roundw
      case rel => exact ⟨k + 1, _, rfl, by go_num, by omega, I10⟩
      case measure => simp [intOf]; omega
    · have hkN : k = N := by omega
      have hkI : ¬ (k : Int) < (N : Int) := by omega
      have hfull : es.take k = es := List.take_of_length_le (by rw [HES.out, List.length_map]; have := HN.out; omega)
      rw [hfull] at hI hTl ⊢
      have hT1l : (T0 ++ dvsT es).length ≤ 3000000 := by
        have h1 := dvsT_len es HOK.out.dv
        have h2 : es.length ≤ 256 := HOK.out.d2
        have h3 := Nat.mul_le_mul_right 10531 h2
        rw [List.length_append]
        omega
      obtain ⟨T1, hT1⟩ : ∃ T1, T1 = T0 ++ dvsT es := ⟨_, rfl⟩
      have HT1 := hid hT1
      rw [← hT1] at hI hT1l ⊢
      clear hT1 hfull hTl
      go_wp2_with fail
      clear t0 t1 t2
      go_loopw [6, 12] (fun u i wz => ∃ (j : Nat) (v : Value), u = v ∧ i = .int .i64 j ∧ j ≤ M ∧ Hid (TdI w (.int .i64 wn) (.slice dv N dc) (.slice lv M lc) v (T1 ++ lksT es (ls.take j)) wz)) (fun _ i _ => M - (intOf i).toNat)
      case atStart => exact ⟨0, _, rfl, rfl, Nat.zero_le _, by rw [List.take_zero, show lksT es [] = [] from rfl, List.append_nil]; exact hI⟩
      case round =>
        obtain ⟨j, v, rfl, rfl, hj, hJ⟩ := hrel
        rename World => wz
        obtain ⟨bo, bc, rfl⟩ := hJ.out.byt.form
        obtain ⟨t0, t1, t2⟩ := topJ_cells hJ.out.top.top
        have hTl : (T1 ++ lksT es (ls.take j)).length ≤ 90000000 := by
          have h1 := lksT_len es (ls.take j) HOK.out.dv (fun x hx => HOK.out.lk x (List.mem_of_mem_take hx))
          have h2 : (ls.take j).length ≤ 4096 := by rw [List.length_take]; omega
          have h3 := Nat.mul_le_mul_right 391 h2
          rw [List.length_append]
          omega
        by_cases hlt2 : j < M
        · obtain ⟨⟨a, p, b, q⟩, hx⟩ : ∃ z, ls[j]? = some z := ⟨_, List.getElem?_eq_getElem (by have := HM.out; omega)⟩
          obtain ⟨G, o, rfl, hG, hc⟩ := HLV.out.resolve_left (fun e => by rw [e] at hx; simp at hx)
          have hlo := HOK.out.lk _ (List.mem_of_getElem? hx)
          have HLO := hid hlo
          obtain ⟨an, han⟩ : ∃ n : Nat, a = (n : Int) := ⟨a.toNat, by have := hlo.a0; simp only at this; omega⟩
          obtain ⟨bn, hbn⟩ : ∃ n : Nat, b = (n : Int) := ⟨b.toNat, by have := hlo.b0; simp only at this; omega⟩
          subst han hbn
          have han := hlo.an
          have hbn := hlo.bn
          simp only [Int.toNat_natCast] at han hbn
          rw [HES.out, List.length_map] at han hbn
          obtain ⟨⟨da, ua, va⟩, hda⟩ : ∃ z, ds[an]? = some z := ⟨_, List.getElem?_eq_getElem han⟩
          obtain ⟨⟨db, ub, vb⟩, hdb⟩ : ∃ z, ds[bn]? = some z := ⟨_, List.getElem?_eq_getElem hbn⟩
          obtain ⟨D, od, rfl, hDl, hdc⟩ := HDV.out.resolve_left (fun e => by rw [e] at hda; simp at hda)
          have HSN := hid (show T1 ++ lksT es (ls.take (j + 1)) = (T1 ++ lksT es (ls.take j)) ++ (sayS [To.linkT, da.name, p, To.arrowT, db.name, q] ++ [10]) by
            have e : lkW es ((an : Int), p, (bn : Int), q) = [To.linkT, da.name, p, To.arrowT, db.name, q] := by
              unfold lkW
              simp only [Int.toNat_natCast]
              rw [getD_at (show es[an]? = some da by rw [HES.out, List.getElem?_map, hda]; rfl), getD_at (show es[bn]? = some db by rw [HES.out, List.getElem?_map, hdb]; rfl)]
            rw [lksT_snoc es hx, e]; simp)
          have HSH := hid (show (∀ z ∈ [To.linkT, da.name, p, To.arrowT, db.name, q], z.length ≤ 64) from fun z hz => by
            simp only [List.mem_cons, List.not_mem_nil, or_false] at hz
            have h1 := (HOK.out.dv da (by rw [HES.out]; exact List.mem_map.2 ⟨_, List.mem_of_getElem? hda, rfl⟩)).name
            have h2 := (HOK.out.dv db (by rw [HES.out]; exact List.mem_map.2 ⟨_, List.mem_of_getElem? hdb, rfl⟩)).name
            have h3 := HLO.out.p
            have h4 := HLO.out.q
            rcases hz with rfl | rfl | rfl | rfl | rfl | rfl
            · decide
            · exact h1
            · exact h3
            · decide
            · exact h2
            · exact h4)
          obtain ⟨T, hTT⟩ : ∃ T, T = T1 ++ lksT es (ls.take j) := ⟨_, rfl⟩
          rw [← hTT] at HSN hTl hJ ⊢
          obtain ⟨nT, hnT⟩ : ∃ n, n = T.length := ⟨_, rfl⟩
          rw [← hnT] at hTl hJ ⊢
          have HNT := hid hnT
          have hwG : wz.heap[G]? = w.heap[G]? := hJ.out.top.below.block G hG
          obtain ⟨c0, c1, c2, c3⟩ := hc j _ hx
          have y0 := (World.cell?_of_block (a := ⟨G, o + j * 4, none⟩) hwG).trans c0
          have y1 := (World.cell?_of_block (a := ⟨G, o + j * 4 + 1, none⟩) hwG).trans c1
          have y2 := (World.cell?_of_block (a := ⟨G, o + j * 4 + 2, none⟩) hwG).trans c2
          have y3 := (World.cell?_of_block (a := ⟨G, o + j * 4 + 3, none⟩) hwG).trans c3
          simp only at y0 y1 y2 y3
          have jI : (j : Int) < (M : Int) := by omega
          have j0I : (0 : Int) ≤ (j : Int) := by omega
          have aI : (an : Int) < (N : Int) := by have := HN.out; omega
          have bI : (bn : Int) < (N : Int) := by have := HN.out; omega
          have a0I : (0 : Int) ≤ (an : Int) := by omega
          have b0I : (0 : Int) ≤ (bn : Int) := by omega
          obtain ⟨W1, hW1⟩ : ∃ W1, W1 = wz.alloc (lkO ((an : Int), p, (bn : Int), q)) := ⟨_, rfl⟩
          obtain ⟨lb, hlb⟩ : ∃ lb, lb = wz.heap.size := ⟨_, rfl⟩
          have hb1 : Below wz.heap.size wz W1 := by rw [hW1]; exact (Below.refl _ _).alloc (Nat.le_refl _) _
          have h1 : W1.heap[lb]? = some (lkO ((an : Int), p, (bn : Int), q)) := by rw [hW1, hlb]; exact new_0 _ _
          have I1 := hid (hJ.out.on hb1)
          have HST := hid (fun (W : World) (hb : Below W1.heap.size W1 W) => (by
            have e := (hb.block D (by have := I1.out.top.below.size; omega)).trans (I1.out.top.below.block D hDl)
            exact ⟨(topJ_cells (I1.out.on hb).top.top).2.1, lkO_cells ((hb.block _ (lt_of_block h1)).trans h1), (World.cell?_of_block (a := ⟨D, od + an * 3, none⟩) e).trans (hdc an _ hda).1, (World.cell?_of_block (a := ⟨D, od + bn * 3, none⟩) e).trans (hdc bn _ hdb).1⟩ : W.cell? ⟨w.heap.size, 1, none⟩ = some (.slice (some ⟨D, od, none⟩) N dc) ∧ (W.cell? ⟨lb, 0, none⟩ = some (.int .i64 an) ∧ W.cell? ⟨lb, 1, none⟩ = some (.string (tx p)) ∧ W.cell? ⟨lb, 2, none⟩ = some (.int .i64 bn) ∧ W.cell? ⟨lb, 3, none⟩ = some (.string (tx q))) ∧ W.cell? ⟨D, od + an * 3, none⟩ = some (.string (tx da.name)) ∧ W.cell? ⟨D, od + bn * 3, none⟩ = some (.string (tx db.name))))
          have I2 := hid (show Below W1.heap.size W1 (W1.drew.alloc (.cells #[.string ⟨#[108, 105, 110, 107]⟩, .string (tx da.name), .string (tx p), .string ⟨#[45, 62]⟩, .string (tx db.name), .string (tx q)] 9 (0, 0))) from ((Below.refl _ _).drew).alloc (Nat.le_refl _) _)
          have HTX := hid (show Txs (W1.drew.alloc (.cells #[.string ⟨#[108, 105, 110, 107]⟩, .string (tx da.name), .string (tx p), .string ⟨#[45, 62]⟩, .string (tx db.name), .string (tx q)] 9 (0, 0))) (.slice (some ⟨W1.heap.size, 0, none⟩) 6 6) [To.linkT, da.name, p, To.arrowT, db.name, q] from by
            refine ⟨_, 6, rfl, .inr ⟨W1.heap.size, 0, rfl, by rw [World.size_alloc]; exact Nat.lt_succ_self W1.heap.size, fun i hi => ?_⟩⟩
            rw [cell_at (show (W1.drew.alloc (.cells #[.string ⟨#[108, 105, 110, 107]⟩, .string (tx da.name), .string (tx p), .string ⟨#[45, 62]⟩, .string (tx db.name), .string (tx q)] 9 (0, 0))).heap[W1.heap.size]? = some (.cells #[.string ⟨#[108, 105, 110, 107]⟩, .string (tx da.name), .string (tx p), .string ⟨#[45, 62]⟩, .string (tx db.name), .string (tx q)] 9 (0, 0)) from new_0 W1.drew _)]
            have hi2 : i < 6 := hi
            rcases (by omega : i = 0 ∨ i = 1 ∨ i = 2 ∨ i = 3 ∨ i = 4 ∨ i = 5) with rfl | rfl | rfl | rfl | rfl | rfl <;> rfl)
          have HSY := hid (RSay_anyX _ _ _ HTX.out (by show 6 ≤ 100000; omega) (fun z hz => Nat.le_trans (HSH.out z hz) (by decide)))
          obtain ⟨S1, hS1⟩ : ∃ S, S = sayS [To.linkT, da.name, p, To.arrowT, db.name, q] := ⟨_, rfl⟩
          have hS1l : S1.length ≤ 20000 := by
            have h1 := sayS_short HSH.out
            have h2 : [To.linkT, da.name, p, To.arrowT, db.name, q].length = 6 := rfl
            rw [h2] at h1
            rw [hS1]; omega
          rw [← hS1] at HSY HSN
          obtain ⟨e1, he1⟩ : ∃ e, e = sayE [To.linkT, da.name, p, To.arrowT, db.name, q] := ⟨_, rfl⟩
          rw [← he1] at HSY
          clear hx hlo hda hdb hdc hwG c0 c1 c2 c3 hb1 h1 hTT hc han hbn HSH HTX hS1 he1 hnT
          go_upto_region 16 with fail
          rw [← hW1, ← hlb]
          clear hW1 hlb y0 y1 y2 y3 t0 t1 t2
          refine wp_region_held_drew (S := (fun W => W.cell? ⟨w.heap.size, 1, none⟩ = some (.slice (some ⟨D, od, none⟩) N dc) ∧ (W.cell? ⟨lb, 0, none⟩ = some (.int .i64 an) ∧ W.cell? ⟨lb, 1, none⟩ = some (.string (tx p)) ∧ W.cell? ⟨lb, 2, none⟩ = some (.int .i64 bn) ∧ W.cell? ⟨lb, 3, none⟩ = some (.string (tx q))) ∧ W.cell? ⟨D, od + an * 3, none⟩ = some (.string (tx da.name)) ∧ W.cell? ⟨D, od + bn * 3, none⟩ = some (.string (tx db.name)))) (by kernel_rfl) ?hSt0 (fun hHeld => ?_)
          case hSt0 => exact HST.out _ (Below.refl _ _).drew
          refine tkH (i := 0) (v := ?vt0) rfl (by kernel_rfl) (by kernel_rfl) (by kernel_rfl) (fun _ _ _ h => h) (by rfl) ?yt0 (by assumption) ?rt0
          case yt0 => (intro w hSw; (try dsimp only at hSw); go_simp; (try with_reducible rfl))
          (try simp only [Act.put, List.setIfInBounds_toArray, List.set_cons_zero, List.set_cons_succ])
          refine tkH (i := 1) (v := ?vt1) rfl (by kernel_rfl) (by kernel_rfl) (by kernel_rfl) (fun _ _ _ h => h) (by rfl) ?yt1 (by assumption) ?rt1
          case yt1 => (intro w hSw; (try dsimp only at hSw); go_simp; (try with_reducible rfl))
          (try simp only [Act.put, List.setIfInBounds_toArray, List.set_cons_zero, List.set_cons_succ])
          refine tkH (i := 2) (v := ?vt2) rfl (by kernel_rfl) (by kernel_rfl) (by kernel_rfl) (fun _ _ _ h => h) (by rfl) ?yt2 (by assumption) ?rt2
          case yt2 => (intro w hSw; (try dsimp only at hSw); go_simp; (try with_reducible rfl))
          (try simp only [Act.put, List.setIfInBounds_toArray, List.set_cons_zero, List.set_cons_succ])
          refine tkH (i := 3) (v := ?vt3) rfl (by kernel_rfl) (by kernel_rfl) (by kernel_rfl) (fun _ _ _ h => h) (by rfl) ?yt3 (by assumption) ?rt3
          case yt3 => (intro w hSw; (try dsimp only at hSw); go_simp; (try with_reducible rfl))
          (try simp only [Act.put, List.setIfInBounds_toArray, List.set_cons_zero, List.set_cons_succ])
          refine tkH (i := 4) (v := ?vt4) rfl (by kernel_rfl) (by kernel_rfl) (by kernel_rfl) (fun _ _ _ h => h) (by rfl) ?yt4 (by assumption) ?rt4
          case yt4 => (intro w hSw; (try dsimp only at hSw); go_simp; (try with_reducible rfl))
          (try simp only [Act.put, List.setIfInBounds_toArray, List.set_cons_zero, List.set_cons_succ])
          refine tkH (i := 5) (v := ?vt5) rfl (by kernel_rfl) (by kernel_rfl) (by kernel_rfl) (fun _ _ _ h => h) (by rfl) ?yt5 (by assumption) ?rt5
          case yt5 => (intro w hSw; (try dsimp only at hSw); go_simp; (try with_reducible rfl))
          (try simp only [Act.put, List.setIfInBounds_toArray, List.set_cons_zero, List.set_cons_succ])
          refine tkH (i := 6) (v := ?vt6) rfl (by kernel_rfl) (by kernel_rfl) (by kernel_rfl) (fun _ _ _ h => h) (by rfl) ?yt6 (by assumption) ?rt6
          case yt6 => (intro w hSw; (try dsimp only at hSw); go_simp; (try with_reducible rfl))
          (try simp only [Act.put, List.setIfInBounds_toArray, List.set_cons_zero, List.set_cons_succ])
          refine tkH (i := 7) (v := ?vt7) rfl (by kernel_rfl) (by kernel_rfl) (by kernel_rfl) (fun _ _ _ h => h) (by rfl) ?yt7 (by assumption) ?rt7
          case yt7 => (intro w hSw; (try dsimp only at hSw); go_simp; (try with_reducible rfl))
          (try simp only [Act.put, List.setIfInBounds_toArray, List.set_cons_zero, List.set_cons_succ])
          refine tkH (i := 8) (v := ?vt8) rfl (by kernel_rfl) (by kernel_rfl) (by kernel_rfl) (fun _ _ _ h => h) (by rfl) ?yt8 (by assumption) ?rt8
          case yt8 => (intro w hSw; (try dsimp only at hSw); go_simp; (try with_reducible rfl))
          (try simp only [Act.put, List.setIfInBounds_toArray, List.set_cons_zero, List.set_cons_succ])
          refine tkH (i := 9) (v := ?vt9) rfl (by kernel_rfl) (by kernel_rfl) (by kernel_rfl) (fun _ _ _ h => h) (by rfl) ?yt9 (by assumption) ?rt9
          case yt9 => (intro w hSw; (try dsimp only at hSw); go_simp; (try with_reducible rfl))
          (try simp only [Act.put, List.setIfInBounds_toArray, List.set_cons_zero, List.set_cons_succ])
          refine tkH (i := 10) (v := ?vt10) rfl (by kernel_rfl) (by kernel_rfl) (by kernel_rfl) (fun _ _ _ h => h) (by rfl) ?yt10 (by assumption) ?rt10
          case yt10 => (intro w hSw; (try dsimp only at hSw); go_simp; (try with_reducible rfl))
          (try simp only [Act.put, List.setIfInBounds_toArray, List.set_cons_zero, List.set_cons_succ])
          refine tkH (i := 11) (v := ?vt11) rfl (by kernel_rfl) (by kernel_rfl) (by kernel_rfl) (fun _ _ _ h => h) (by rfl) ?yt11 (by assumption) ?rt11
          case yt11 => (intro w hSw; (try dsimp only at hSw); go_simp; (try with_reducible rfl))
          (try simp only [Act.put, List.setIfInBounds_toArray, List.set_cons_zero, List.set_cons_succ])
          refine tkH (i := 12) (v := ?vt12) rfl (by kernel_rfl) (by kernel_rfl) (by kernel_rfl) (fun _ _ _ h => h) (by rfl) ?yt12 (by assumption) ?rt12
          case yt12 => (intro w hSw; (try dsimp only at hSw); go_simp; (try with_reducible rfl))
          (try simp only [Act.put, List.setIfInBounds_toArray, List.set_cons_zero, List.set_cons_succ])
          refine tkH (i := 13) (v := ?vt13) rfl (by kernel_rfl) (by kernel_rfl) (by kernel_rfl) (fun _ _ _ h => h) (by rfl) ?yt13 (by assumption) ?rt13
          case yt13 => (intro w hSw; (try dsimp only at hSw); go_simp; (try with_reducible rfl))
          (try simp only [Act.put, List.setIfInBounds_toArray, List.set_cons_zero, List.set_cons_succ])
          refine tkH (i := 14) (v := ?vt14) rfl (by kernel_rfl) (by kernel_rfl) (by kernel_rfl) (fun _ _ _ h => h) (by rfl) ?yt14 (by assumption) ?rt14
          case yt14 => (intro w hSw; (try dsimp only at hSw); go_simp; (try with_reducible rfl))
          (try simp only [Act.put, List.setIfInBounds_toArray, List.set_cons_zero, List.set_cons_succ])
          refine tkH (i := 15) (v := ?vt15) rfl (by kernel_rfl) (by kernel_rfl) (by kernel_rfl) (fun _ _ _ h => h) (by rfl) ?yt15 (by assumption) ?rt15
          case yt15 => (intro w hSw; (try dsimp only at hSw); go_simp; (try with_reducible rfl))
          (try simp only [Act.put, List.setIfInBounds_toArray, List.set_cons_zero, List.set_cons_succ])
          refine tkH (i := 16) (v := ?vt16) rfl (by kernel_rfl) (by kernel_rfl) (by kernel_rfl) (fun _ _ _ h => h) (by rfl) ?yt16 (by assumption) ?rt16
          case yt16 => (intro w hSw; (try dsimp only at hSw); go_simp; (try with_reducible rfl))
          (try simp only [Act.put, List.setIfInBounds_toArray, List.set_cons_zero, List.set_cons_succ])
          refine tkH (i := 17) (v := ?vt17) rfl (by kernel_rfl) (by kernel_rfl) (by kernel_rfl) (fun _ _ _ h => h) (by rfl) ?yt17 (by assumption) ?rt17
          case yt17 => (intro w hSw; (try dsimp only at hSw); go_simp; (try with_reducible rfl))
          (try simp only [Act.put, List.setIfInBounds_toArray, List.set_cons_zero, List.set_cons_succ])
          refine caH (i := 18) rfl (by kernel_rfl) (by rfl) (fun K hK => ?_)
          go_simp
          refine hK.out _ _ (HST.out _ I2.out) (fun hHeld => ?_)
          clear hK K
          (try simp only [Act.put, List.setIfInBounds_toArray, List.set_cons_zero, List.set_cons_succ])
          refine caH (i := 19) rfl (by kernel_rfl) (by rfl) (fun K hK => ?_)
          go_simp
          refine HSY.out.mono ?_
          rintro en w9 ⟨rfl, hb9⟩
          have B9 := hid (I2.out.trans (hb9.mono I2.out.size))
          clear hb9
          refine hK.out _ _ (HST.out _ B9.out) (fun hHeld => ?_)
          clear hK K
          (try simp only [Act.put, List.setIfInBounds_toArray, List.set_cons_zero, List.set_cons_succ])
          refine tkH (i := 20) (v := ?vt20) rfl (by kernel_rfl) (by kernel_rfl) (by kernel_rfl) (fun _ _ _ h => h) (by rfl) ?yt20 (by assumption) ?rt20
          case yt20 => (intro w hSw; (try dsimp only at hSw); go_simp; (try with_reducible rfl))
          (try simp only [Act.put, List.setIfInBounds_toArray, List.set_cons_zero, List.set_cons_succ])
          refine tkH (i := 21) (v := ?vt21) rfl (by kernel_rfl) (by kernel_rfl) (by kernel_rfl) (fun _ _ _ h => h) (by rfl) ?yt21 (by assumption) ?rt21
          case yt21 => (intro w hSw; (try dsimp only at hSw); go_simp; (try with_reducible rfl))
          (try simp only [Act.put, List.setIfInBounds_toArray, List.set_cons_zero, List.set_cons_succ])
          refine tkH (i := 22) (v := ?vt22) rfl (by kernel_rfl) (by kernel_rfl) (by kernel_rfl) (fun _ _ _ h => h) (by rfl) ?yt22 (by assumption) ?rt22
          case yt22 => (intro w hSw; (try dsimp only at hSw); go_simp; (try with_reducible rfl))
          (try simp only [Act.put, List.setIfInBounds_toArray, List.set_cons_zero, List.set_cons_succ])
          refine tkH (i := 23) (v := ?vt23) rfl (by kernel_rfl) (by kernel_rfl) (by kernel_rfl) (fun _ _ _ h => h) (by rfl) ?yt23 (by assumption) ?rt23
          case yt23 => (intro w hSw; (try dsimp only at hSw); go_simp; (try with_reducible rfl))
          (try simp only [Act.put, List.setIfInBounds_toArray, List.set_cons_zero, List.set_cons_succ])
          refine tkH (i := 24) (v := ?vt24) rfl (by kernel_rfl) (by kernel_rfl) (by kernel_rfl) (fun _ _ _ h => h) (by rfl) ?yt24 (by assumption) ?rt24
          case yt24 => (intro w hSw; (try dsimp only at hSw); go_simp; (try with_reducible rfl))
          (try simp only [Act.put, List.setIfInBounds_toArray, List.set_cons_zero, List.set_cons_succ])
          refine wpAnyH_done (by kernel_rfl) ?_ _
          have I9 := hid (I1.out.on B9.out)
          have hov1 : ¬ 9223372036854775807 < S1.length + 1 := by omega
          have h19 := I9.out.lt
          clear HST I2 HSY B9 I1
          go_wp2_with (first | (at_builtin; refine wpList_append_bytK (w := w9) rfl (.tmp 95) (.tmp 97) rfl (B := w.heap.size + 1) (v := .slice bo nT bc) (l := T) (t := S1 ++ [10]) rfl I9.out.byt (by rw [← tx_app]; rfl) (by rw [List.length_append, ← HNT.out]; simp only [List.length_cons, List.length_nil]; omega) h19 ?_))
          intro v10 w10 hk10 hg10
          rw [← HSN.out] at hk10
          have I10 := hid (I9.out.app hg10 hk10)
          clear hk10 hg10
          go_wp2
          go_roundw
          case rel => exact ⟨j + 1, _, rfl, by go_num, by omega, I10⟩
          case measure => simp [intOf]; omega
        · have hjI : ¬ (j : Int) < (M : Int) := by omega
          have hfull : ls.take j = ls := List.take_of_length_le (by have := HM.out; omega)
          rw [hfull] at hJ hTl ⊢
          have HFT := hid (show tpT wn es ls = T1 ++ lksT es ls by unfold tpT; rw [HT1.out, HT0.out, HS0.out])
          obtain ⟨T, hTT⟩ : ∃ T, T = T1 ++ lksT es ls := ⟨_, rfl⟩
          rw [← hTT] at hJ HFT ⊢
          have hcv := bytK_conv hJ.out.byt
          clear hTT hfull hTl
          go_wp2
          refine bodyPost_ret (v := .tuple #[.string (tx T), .int .i64 0]) (by simp [results, Tryz.results15, go_sem]) rfl ?_
          exact ⟨by rw [HE.out, HFT.out], hJ.out.top.below⟩
end Go.Proofs.YtebaopiedlioiaaGreatDoor
