/-
  The program's namesMayBe and deviceMayBe.
  The program's words of a device.
  The program's words of a device; a line of words that is said.
  A builder that is written to: blocks of another kind than its bytes stay (as WBuild, with that said too).
  A text that is no topology: its fault has a number. Plain mathematics.
  A topology that was parsed may be, and its text is short. Plain mathematics.
-/
import Derived.Test.YtebaopiedlioiaaGreatDoorJInsMAnd
import Derived.Test.YtebaopiedlioiaaGreatDoorWBuildAnd
import Derived.Test.YtebaopiedlioiaaGreatDoorJDocKAnd
import Derived.Test.YtebaopiedlioiaaGreatDoorJDocPAnd
import Derived.Test.YtebaopiedlioiaaGreatDoorJDocNAnd
namespace Go.Proofs.YtebaopiedlioiaaGreatDoor
namespace Bk
open Wo (Wd)
open Dt (NmZ)

/-- A link with numbers of any kind. -/
def lkz (l : To.Lk) : LkZ := ((l.a : Int), l.p, (l.b : Int), l.q)
/-- Both ends of a link. -/
def endsL (l : To.Lk) : List (Nat × List UInt8) := [(l.a, l.p), (l.b, l.q)]
theorem endsL_jnd (a b : Nat × List UInt8) : (endsL (jndL a b)).Perm [a, b] := by
  rcases jndL_lt a b with ⟨_, e⟩ | ⟨_, e⟩
  · rw [e]; exact List.Perm.swap _ _ _
  · rw [e]; exact List.Perm.refl _
theorem keys_flat (ls : List To.Lk) : keysJ (ls.map lkz) = ls.flatMap endsL := by
  induction ls with
  | nil => rfl
  | cons l r ih =>
    rw [List.map_cons, List.flatMap_cons, ← ih]
    unfold keysJ
    rw [List.flatMap_cons]
    unfold lkz endsL
    simp
theorem ends_perm (nms : List (List UInt8)) (ns : List NmZ) : ((lksN nms ns).flatMap endsL).Perm (ns.flatMap fun q => [(nmE nms q).1, (nmE nms q).2]) := by
  induction ns with
  | nil => exact List.Perm.refl _
  | cons q r ih =>
    show (endsL (jndL (nmE nms q).1 (nmE nms q).2) ++ (lksN nms r).flatMap endsL).Perm ([(nmE nms q).1, (nmE nms q).2] ++ r.flatMap fun q => [(nmE nms q).1, (nmE nms q).2])
    exact (endsL_jnd _ _).append ih
theorem flat_perm {l l' : List To.Lk} (h : l.Perm l') : (l.flatMap endsL).Perm (l'.flatMap endsL) := by
  induction h with
  | nil => exact List.Perm.refl _
  | cons a _ ih => rw [List.flatMap_cons, List.flatMap_cons]; exact (List.Perm.refl _).append ih
  | swap a b l =>
    rw [List.flatMap_cons, List.flatMap_cons, List.flatMap_cons, List.flatMap_cons, ← List.append_assoc, ← List.append_assoc]
    exact (List.perm_append_comm).append (List.Perm.refl _)
  | trans _ _ i1 i2 => exact i1.trans i2
/-- What Parse made of a text: its devices in order, its links by new numbers. -/
structure Told (t : TSt) (vs ds' : List (To.Dv × Value × Value)) (ls' : List To.Lk) : Prop where
  ok : TOk t
  vd : vs.map (·.1) = t.ds
  pd : ds'.Perm vs
  od : ds'.Pairwise fun a b => ¬ b.1.name < a.1.name
  pl : ls'.Perm (t.ls.map (renL (posF vs ds')))
  ol : ls'.Pairwise fun a b => ¬ ocE b.a b.p a.a a.p < 0
theorem Told.dvs {t : TSt} {vs ds' : List (To.Dv × Value × Value)} {ls' : List To.Lk} (h : Told t vs ds' ls') : (ds'.map (·.1)).Perm t.ds := h.vd ▸ h.pd.map _
theorem Told.nodup {t : TSt} {vs ds' : List (To.Dv × Value × Value)} {ls' : List To.Lk} (h : Told t vs ds' ls') : ((ds'.map (·.1)).map (·.name)).Nodup := (h.dvs.map (fun d : To.Dv => d.name)).nodup_iff.2 (show (t.ds.map (·.name)).Nodup from h.ok.nd)
theorem Told.rise {t : TSt} {vs ds' : List (To.Dv × Value × Value)} {ls' : List To.Lk} (h : Told t vs ds' ls') : ((ds'.map (·.1)).map (·.name)).Pairwise (· < ·) := by
  have h1 := List.nodup_iff_pairwise_ne.1 h.nodup
  have h2 : ((ds'.map (·.1)).map (·.name)).Pairwise fun a b => ¬ b < a := List.pairwise_map.2 (List.pairwise_map.2 h.od)
  exact List.Pairwise.imp₂ (fun {a b} hne hnl => by
    rcases Ru.lt_or hnl with q | q
    · exact q
    · exact absurd q.symm hne) h1 h2
theorem dvB_of {ds : List To.Dv} (h1 : ∀ d ∈ ds, DvR d) (h2 : (ds.map (·.name)).Pairwise (· < ·)) : ∀ i, i < ds.length → dvB ds i = true := by
  intro i hi
  obtain ⟨d, hd⟩ : ∃ d, ds[i]? = some d := ⟨_, List.getElem?_eq_getElem hi⟩
  have hr := h1 d (List.mem_of_getElem? hd)
  unfold dvB
  rw [getD_at hd, hr.nm, hr.cls.nms, hr.prt.nms, Bool.true_and, Bool.and_true, Bool.and_true, Bool.or_eq_true, decide_eq_true_eq, decide_eq_true_eq]
  by_cases h0 : i = 0
  · exact Or.inl h0
  · right
    obtain ⟨e, he⟩ : ∃ e, ds[i - 1]? = some e := ⟨_, List.getElem?_eq_getElem (by omega)⟩
    rw [getD_at he]
    have := List.pairwise_iff_getElem.1 h2 (i - 1) i (by rw [List.length_map]; omega) (by rw [List.length_map]; exact hi) (by omega)
    rw [List.getElem_map, List.getElem_map, (List.getElem?_eq_some_iff.1 hd).2, (List.getElem?_eq_some_iff.1 he).2] at this
    exact this
/-- A port of a device, by the device's name, in whatever order the devices stand. -/
theorem hasP_perm {ds ds' : List To.Dv} (hp : ds'.Perm ds) (hn : (ds.map (·.name)).Nodup) {y p : List UInt8} (hy : y ∈ ds.map (·.name)) (h : hasP ds ((ds.map (·.name)).idxOf y : Nat) p = true) : hasP ds' ((ds'.map (·.name)).idxOf y : Nat) p = true := by
  have hlt := List.idxOf_lt_length_iff.2 hy
  have hlt0 : (ds.map (·.name)).idxOf y < ds.length := by rwa [List.length_map] at hlt
  rw [hasP_getD _ hlt0] at h
  have hy' : y ∈ ds'.map (·.name) := (hp.map (·.name)).mem_iff.2 hy
  have hlt' := List.idxOf_lt_length_iff.2 hy'
  have hlt0' : (ds'.map (·.name)).idxOf y < ds'.length := by rwa [List.length_map] at hlt'
  rw [hasP_getD _ hlt0']
  have key : ∀ (l : List To.Dv) (i : Nat) (hi : i < l.length), (l.map (·.name))[i]? = some y → (l.getD i dv0).name = y ∧ l.getD i dv0 ∈ l := fun l i hi e => by
    rw [List.getElem?_map, List.getElem?_eq_getElem hi] at e
    rw [List.getD_eq_getElem?_getD, List.getElem?_eq_getElem hi]
    exact ⟨Option.some.inj e, List.getElem_mem _⟩
  have g := key ds _ hlt0 (by rw [List.getElem?_eq_getElem hlt]; exact congrArg some (List.getElem_idxOf _))
  have g' := key ds' _ hlt0' (by rw [List.getElem?_eq_getElem hlt']; exact congrArg some (List.getElem_idxOf _))
  have hm := hp.mem_iff.1 g'.2
  obtain ⟨i, hi⟩ := List.getElem?_of_mem hm
  obtain ⟨j, hj⟩ := List.getElem?_of_mem g.2
  have hij : i = j := by
    have hil := (List.getElem?_eq_some_iff.1 hi).1
    have hjl := (List.getElem?_eq_some_iff.1 hj).1
    have e : (ds.map (·.name))[i]'(by rw [List.length_map]; exact hil) = (ds.map (·.name))[j]'(by rw [List.length_map]; exact hjl) := by
      rw [List.getElem_map, List.getElem_map, (List.getElem?_eq_some_iff.1 hi).2, (List.getElem?_eq_some_iff.1 hj).2, g.1, g'.1]
    have := List.nodup_iff_pairwise_ne.1 hn
    rcases Nat.lt_trichotomy i j with q | q | q
    · exact absurd e (List.pairwise_iff_getElem.1 this i j _ _ q)
    · exact q
    · exact absurd e.symm (List.pairwise_iff_getElem.1 this j i _ _ q)
  rw [hij, hj] at hi
  rw [← Option.some.inj hi]
  exact h
/-- A topology that was parsed may be. -/
theorem told_may {s : List UInt8} {t : TSt} {vs ds' : List (To.Dv × Value × Value)} {ls' : List To.Lk} (hp : prsT s = .ok t) (h : Told t vs ds' ls') : topB t.wid (ds'.map (·.1)) (ls'.map lkz) = true := by
  obtain ⟨hne, hg⟩ := prsT_good hp
  obtain ⟨ns, hs⟩ := hg.sim
  have hdv : ∀ d ∈ ds'.map (·.1), DvR d := fun d hd => hg.dv d (h.dvs.mem_iff.1 hd)
  have hlen := h.dvs.length_eq
  obtain ⟨nms, hnms⟩ : ∃ nms, nms = ds'.map (·.1.name) := ⟨_, rfl⟩
  have hnm2 : (ds'.map (·.1)).map (·.name) = nms := by rw [hnms, List.map_map]; rfl
  have hvn : vs.map (·.1.name) = t.nms := by unfold TSt.nms; rw [← h.vd, List.map_map]; rfl
  have hm : ∀ y, y ∈ t.nms → y ∈ nms := fun y hy => by
    rw [← hvn] at hy
    rw [hnms]
    exact (h.pd.map (fun q : To.Dv × Value × Value => q.1.name)).mem_iff.2 hy
  have hpl := h.pl
  rw [hs.renamed h.vd h.pd, ← hnms] at hpl
  have hkn : (keysJ (ls'.map lkz)).Nodup := by
    rw [keys_flat]
    exact ((flat_perm hpl).trans (ends_perm nms ns)).nodup_iff.2 (hs.ends hm)
  have hll : ls'.length ≤ 4096 := by
    have := h.pl.length_eq
    rw [List.length_map] at this
    have := h.ok.ll
    omega
  refine topB_all ⟨by have := hg.wid; omega, by have := h.ok.wd; omega⟩ ⟨by rw [hlen]; cases e : t.ds with | nil => exact absurd e hne | cons a r => simp, by rw [hlen]; exact h.ok.dl, by rw [List.length_map]; exact hll⟩ (dvB_of hdv h.rise) ?_
  intro j
  induction j using Nat.strongRecOn with
  | _ j ih =>
    intro hj
    rw [List.length_map] at hj
    obtain ⟨l, hl⟩ : ∃ l, ls'[j]? = some l := ⟨_, List.getElem?_eq_getElem hj⟩
    have hx : (ls'.map lkz)[j]? = some (lkz l) := by rw [List.getElem?_map, hl]; rfl
    have hsn := keysJ_snoc hx
    have hsub : (keysJ ((ls'.map lkz).take (j + 1))).Nodup := by
      have e : keysJ (ls'.map lkz) = keysJ ((ls'.map lkz).take (j + 1)) ++ keysJ ((ls'.map lkz).drop (j + 1)) := by
        unfold keysJ
        rw [← List.flatMap_append, List.take_append_drop]
      rw [e, List.nodup_append] at hkn
      exact hkn.1
    rw [hsn] at hsub
    have hn1 := (List.nodup_append.1 hsub).1
    have k2 : (((lkz l).2.2.1).toNat, (lkz l).2.2.2) ∉ keysJ ((ls'.map lkz).take j) ++ [((lkz l).1.toNat, (lkz l).2.1)] := fun q => (List.nodup_append.1 hsub).2.2 _ q _ (by simp) rfl
    have k1 : ((lkz l).1.toNat, (lkz l).2.1) ∉ keysJ ((ls'.map lkz).take j) := fun q => (List.nodup_append.1 hn1).2.2 _ q _ (by simp) rfl
    obtain ⟨q, hq, hlq⟩ := List.mem_map.1 (hpl.mem_iff.1 (List.mem_of_getElem? hl))
    obtain ⟨m1, m2⟩ := hs.mem q hq
    have hA : hasP (ds'.map (·.1)) ((nmE nms q).1.1 : Nat) (nmE nms q).1.2 = true := by
      have := hs.prt (nmE t.nms q).1 (by rw [hs.ks]; exact List.mem_flatMap.2 ⟨q, hq, by simp⟩)
      unfold nmE at this ⊢
      rw [← hnm2]
      exact hasP_perm h.dvs h.ok.nd m1 this
    have hB : hasP (ds'.map (·.1)) ((nmE nms q).2.1 : Nat) (nmE nms q).2.2 = true := by
      have := hs.prt (nmE t.nms q).2 (by rw [hs.ks]; exact List.mem_flatMap.2 ⟨q, hq, by simp⟩)
      unfold nmE at this ⊢
      rw [← hnm2]
      exact hasP_perm h.dvs h.ok.nd m2 this
    refine (lkB_iff hx (fun i hi => ih i hi (by rw [List.length_map]; omega))).2 ⟨?_, ?_, ?_, ?_, k1, k2⟩
    · by_cases h0 : j = 0
      · exact Or.inl h0
      · right
        obtain ⟨l0, hl0⟩ : ∃ l, ls'[j - 1]? = some l := ⟨_, List.getElem?_eq_getElem (by omega)⟩
        have hx0 : (ls'.map lkz)[j - 1]? = some (lkz l0) := by rw [List.getElem?_map, hl0]; rfl
        rw [getD_at hx0]
        have ho := List.pairwise_iff_getElem.1 h.ol (j - 1) j (by omega) hj (by omega)
        rw [(List.getElem?_eq_some_iff.1 hl).2, (List.getElem?_eq_some_iff.1 hl0).2] at ho
        have hne2 : lowE l0 ≠ lowE l := fun e => k1 (by
          unfold keysJ
          refine List.mem_flatMap.2 ⟨lkz l0, List.mem_of_getElem? (i := j - 1) (by rw [List.getElem?_take, if_pos (by omega)]; exact hx0), ?_⟩
          unfold lowE at e
          injection e with e1 e2
          unfold lkz
          simp only [Int.toNat_natCast]
          rw [e1, e2]
          simp)
        by_cases hq2 : ocE l0.a l0.p l.a l.p < 0
        · exact hq2
        · exact absurd (endLt_total (a := lowE l0) (b := lowE l) hq2 ho) hne2
    · rw [← hlq]
      rcases jndL_lt (nmE nms q).1 (nmE nms q).2 with ⟨_, e⟩ | ⟨_, e⟩
      · rw [e]; exact hB
      · rw [e]; exact hA
    · rw [← hlq]
      rcases jndL_lt (nmE nms q).1 (nmE nms q).2 with ⟨_, e⟩ | ⟨_, e⟩
      · rw [e]; exact hA
      · rw [e]; exact hB
    · have hne2 : ¬ (l.a, l.p) = (l.b, l.q) := fun e => k2 (by
        rw [List.mem_append, List.mem_singleton]
        right
        unfold lkz
        simp only [Int.toNat_natCast]
        exact e.symm)
      have hl2 : ¬ ocE l.b l.q l.a l.p < 0 := by
        rw [← hlq]
        rcases jndL_lt (nmE nms q).1 (nmE nms q).2 with ⟨g, e⟩ | ⟨g, e⟩
        · rw [e]; exact endLt_asymm g
        · rw [e]; exact g
      by_cases hq2 : ocE l.a l.p l.b l.q < 0
      · exact hq2
      · exact absurd (endLt_total (a := (l.a, l.p)) (b := (l.b, l.q)) hq2 hl2) hne2
/-- A line is no longer than its words. -/
theorem joinT_wl (ls : List (List UInt8)) : ∀ a, (Wo.joinT a ls).length ≤ wl ls := by
  induction ls with
  | nil => intro a; simp [Wo.joinT]
  | cons b r ih =>
    intro a
    have e : Wo.joinT a (b :: r) = (if Wo.glue a b then 32 :: b else b) ++ Wo.joinT b r := rfl
    have h1 := ih b
    rw [e, List.length_append, wl_cons]
    split
    · rw [List.length_cons]; omega
    · omega
theorem sayS_wl (ls : List (List UInt8)) : (sayS ls).length ≤ wl ls := by
  unfold sayS
  split
  · cases ls with
    | nil => simp [Wo.sayL]
    | cons a r =>
      have h1 := joinT_wl r a
      show (a ++ Wo.joinT a r).length ≤ _
      rw [List.length_append, wl_cons]
      omega
  · simp
theorem dvsT_wl (ds : List To.Dv) : (dvsT ds).length ≤ (ds.map fun d => wl (dvW d)).sum + ds.length := by
  induction ds with
  | nil => simp [dvsT]
  | cons d r ih =>
    have e : dvsT (d :: r) = (sayS (dvW d) ++ [10]) ++ dvsT r := rfl
    have := sayS_wl (dvW d)
    rw [e, List.length_append, List.length_append, List.map_cons, List.sum_cons]
    simp only [List.length_cons, List.length_nil]
    omega
theorem lkW_lw (ds : List To.Dv) (l : To.Lk) : wl (lkW ds (lkz l)) = lw (ds.map (·.name)) l := by
  have g : ∀ i : Nat, (ds.getD i dv0).name = (ds.map (·.name)).getD i [] := fun i => by
    rw [List.getD_eq_getElem?_getD, List.getD_eq_getElem?_getD, List.getElem?_map]
    cases ds[i]? with
    | none => rfl
    | some d => rfl
  unfold lkW lw lkN lkz
  simp only [Int.toNat_natCast]
  rw [g, g]
theorem lksT_wl (ds : List To.Dv) (ls : List To.Lk) : (lksT ds (ls.map lkz)).length ≤ (ls.map (lw (ds.map (·.name)))).sum + ls.length := by
  induction ls with
  | nil => simp [lksT]
  | cons l r ih =>
    have e : lksT ds ((l :: r).map lkz) = (sayS (lkW ds (lkz l)) ++ [10]) ++ lksT ds (r.map lkz) := rfl
    have h1 := sayS_wl (lkW ds (lkz l))
    rw [lkW_lw] at h1
    rw [e, List.length_append, List.length_append, List.map_cons, List.sum_cons]
    simp only [List.length_cons, List.length_nil]
    omega
theorem lksN_wt {nms nms' : List (List UInt8)} (ns : List NmZ) (h : ∀ q ∈ ns, q.1.1 ∈ nms ∧ q.2.1 ∈ nms) (h' : ∀ q ∈ ns, q.1.1 ∈ nms' ∧ q.2.1 ∈ nms') : ((lksN nms ns).map (lw nms)).sum = ((lksN nms' ns).map (lw nms')).sum := by
  have g : ∀ {l : List (List UInt8)} {y : List UInt8}, y ∈ l → l.getD (l.idxOf y) [] = y := fun {l y} hy => by
    rw [List.getD_eq_getElem?_getD, List.getElem?_eq_getElem (List.idxOf_lt_length_iff.2 hy)]
    exact List.getElem_idxOf _
  unfold lksN
  rw [List.map_map, List.map_map]
  congr 1
  refine List.map_congr_left fun q hq => ?_
  obtain ⟨m1, m2⟩ := h q hq
  obtain ⟨m3, m4⟩ := h' q hq
  show lw nms (jndL _ _) = lw nms' (jndL _ _)
  rw [lw_jnd, lw_jnd]
  unfold lkN nmE
  simp only
  rw [g m1, g m2, g m3, g m4]
/-- The text of a topology that was parsed is short, where its own text is. -/
theorem told_short {s : List UInt8} {t : TSt} {vs ds' : List (To.Dv × Value × Value)} {ls' : List To.Lk} (hp : prsT s = .ok t) (h : Told t vs ds' ls') : (tpT t.wid (ds'.map (·.1)) (ls'.map lkz)).length ≤ 2 * s.length + 5000 := by
  obtain ⟨hne, hg⟩ := prsT_good hp
  obtain ⟨ns, hs⟩ := hg.sim
  have hok := topB_ok (told_may hp h)
  have hvn : vs.map (·.1.name) = t.nms := by unfold TSt.nms; rw [← h.vd, List.map_map]; rfl
  obtain ⟨nms, hnms⟩ : ∃ nms, nms = ds'.map (·.1.name) := ⟨_, rfl⟩
  have hnm2 : (ds'.map (·.1)).map (·.name) = nms := by rw [hnms, List.map_map]; rfl
  have hm : ∀ y, y ∈ t.nms → y ∈ nms := fun y hy => by
    rw [← hvn] at hy
    rw [hnms]
    exact (h.pd.map (fun q : To.Dv × Value × Value => q.1.name)).mem_iff.2 hy
  have hpl := h.pl
  rw [hs.renamed h.vd h.pd, ← hnms] at hpl
  have h1 := dvsT_wl (ds'.map (·.1))
  have h2 := lksT_wl (ds'.map (·.1)) ls'
  rw [hnm2] at h2
  have e1 : ((ds'.map (·.1)).map fun d => wl (dvW d)).sum = (t.ds.map fun d => wl (dvW d)).sum := (h.dvs.map _).sum_nat
  have e2 : (ls'.map (lw nms)).sum = (t.ls.map (lw t.nms)).sum := by
    rw [(hpl.map (lw nms)).sum_nat, lksN_wt (nms' := t.nms) ns (fun q hq => ⟨hm _ (hs.mem q hq).1, hm _ (hs.mem q hq).2⟩) (fun q hq => hs.mem q hq)]
    rw [hs.ls]
    rfl
  have hw := hg.wt
  unfold wS at hw
  have h3 := hok.d2
  have h4 := hok.l2
  rw [List.length_map] at h4
  have h5 : (sayS (wdW t.wid)).length ≤ 130 := by
    have q := sayS_short (c := 64) (ls := wdW t.wid) (fun z hz => by
      unfold wdW at hz
      simp only [List.mem_cons, List.not_mem_nil, or_false] at hz
      rcases hz with rfl | rfl
      · decide
      · have : ∀ n : Nat, n ≤ 128 → (Lib.decDigits n).length ≤ 64 := by decide +kernel
        exact this _ h.ok.wd)
    exact q
  unfold tpT
  simp only [List.length_append, List.length_cons, List.length_nil]
  omega
end Bk
end Go.Proofs.YtebaopiedlioiaaGreatDoor
namespace Go.Proofs.YtebaopiedlioiaaGreatDoor
namespace Bk
open Wo (Wd)
open Ru (Ft ft nx put ins)

theorem lst_bad {e : Wd} (he : e.1 = []) {most : Nat} : ∀ (n : Nat) (l : List Wd) (acc : List (List UInt8)) (f : Ft), l.length ≤ n → To.lst e most l acc = .error f → f.2.2 ≠ 0 := by
  intro n
  induction n with
  | zero =>
    intro l acc f hn h
    have : l = [] := List.length_eq_zero_iff.1 (by omega)
    subst this
    rw [To.lst] at h
    injection h with h
    subst h
    show (31 : Nat) ≠ 0
    decide
  | succ n ih =>
    intro l acc f hn h
    rw [To.lst_eq he] at h
    split at h
    · injection h with h; subst h; show (31 : Nat) ≠ 0; decide
    · split at h
      · injection h with h; subst h; show (3 : Nat) ≠ 0; decide
      · split at h
        · rename_i h1 _ _
          refine ih _ _ _ ?_ h
          cases l with
          | nil => simp
          | cons w r => simp only [List.length_cons, List.length_tail, List.tail_cons] at hn ⊢; omega
        · cases h
theorem opt_bad {e : Wd} (he : e.1 = []) {most : Nat} {k : List UInt8} {l : List Wd} {f : Ft} (h : To.opt e most k l = .error f) : f.2.2 ≠ 0 := by
  unfold To.opt at h
  split at h
  · exact lst_bad he _ _ _ _ (Nat.le_refl _) h
  · cases h
theorem dev_bad {x e : Wd} (he : e.1 = []) {ns : List (List UInt8)} {l : List Wd} {f : Ft} (h : To.dev x e ns l = .error f) : f.2.2 ≠ 0 := by
  unfold To.dev at h
  split at h
  · injection h with h; subst h; show (31 : Nat) ≠ 0; decide
  · split at h
    · injection h with h; subst h; show (111 : Nat) ≠ 0; decide
    · cases hc : To.opt e 16 To.classT l.tail with
      | error g =>
        rw [hc] at h
        injection h with h
        subst h
        exact opt_bad he hc
      | ok cr =>
        rw [hc] at h
        cases hp : To.opt e 64 To.portT cr.2 with
        | error g =>
          have h' : To.devB x e ns.length (nx e l).1 cr.1 (To.opt e 64 To.portT cr.2) = .error f := h
          rw [hp] at h'
          injection h' with h'
          subst h'
          exact opt_bad he hp
        | ok pr =>
          have h' : To.devB x e ns.length (nx e l).1 cr.1 (To.opt e 64 To.portT cr.2) = .error f := h
          rw [hp] at h'
          unfold To.devB at h'
          simp only at h'
          split at h'
          · injection h' with h'; subst h'; show (110 : Nat) ≠ 0; decide
          · split at h'
            · injection h' with h'; subst h'; show (3 : Nat) ≠ 0; decide
            · cases h'
theorem wid_bad {e : Wd} {l : List Wd} {f : Ft} (h : To.wid e l = .error f) : f.2.2 ≠ 0 := by
  unfold To.wid at h
  split at h
  · rename_i h1
    injection h with h; subst h; exact h1
  · split at h
    · injection h with h; subst h; show (5 : Nat) ≠ 0; decide
    · split at h
      · injection h with h; subst h; show (110 : Nat) ≠ 0; decide
      · cases h
theorem end_bad {hp : Nat → List UInt8 → Bool} {nms : List (List UInt8)} {ks : List (Nat × List UInt8)} {e : Wd} {l : List Wd} {f : Ft} (h : endJ hp nms ks e l = .error f) : f.2.2 ≠ 0 := by
  simp only [endJ] at h
  split at h
  · injection h with h; subst h; show (31 : Nat) ≠ 0; decide
  · split at h
    · injection h with h; subst h; show (112 : Nat) ≠ 0; decide
    · split at h
      · injection h with h; subst h; show (31 : Nat) ≠ 0; decide
      · split at h
        · injection h with h; subst h; show (111 : Nat) ≠ 0; decide
        · split at h
          · injection h with h; subst h; show (112 : Nat) ≠ 0; decide
          · cases h
theorem lnk_bad {hp : Nat → List UInt8 → Bool} {nms : List (List UInt8)} {ks : List (Nat × List UInt8)} {x e : Wd} {n : Nat} {l : List Wd} {f : Ft} (h : lnkJ hp nms ks x e n l = .error f) : f.2.2 ≠ 0 := by
  unfold lnkJ at h
  cases h1 : endJ hp nms ks e l with
  | error g =>
    rw [h1] at h
    have h' : (Except.error g : Except Ft ((Nat × List UInt8) × (Nat × List UInt8))) = .error f := h
    injection h' with h'
    subst h'
    exact end_bad h1
  | ok a =>
    rw [h1, lnkA_ok] at h
    split at h
    · injection h with h; subst h; show (110 : Nat) ≠ 0; decide
    · cases h2 : endJ hp nms (ks ++ [a]) e l.tail.tail.tail with
      | error g =>
        rw [h2] at h
        have h' : (Except.error g : Except Ft ((Nat × List UInt8) × (Nat × List UInt8))) = .error f := h
        injection h' with h'
        subst h'
        exact end_bad h2
      | ok b =>
        rw [h2, lnkB_ok] at h
        split at h
        · injection h with h; subst h; show (110 : Nat) ≠ 0; decide
        · split at h
          · injection h with h; subst h; show (3 : Nat) ≠ 0; decide
          · cases h
theorem lin_bad {i : Nat} {s : TSt} {x e : Wd} (he : e.1 = []) {t : List Wd} {f : Ft} (h : linT i s x e t = .error f) : f.2.2 ≠ 0 := by
  unfold linT at h
  split at h
  · split at h
    · split at h
      · rename_i g hg
        injection h with h; subst h; exact wid_bad hg
      · cases h
    · injection h with h; subst h; show (110 : Nat) ≠ 0; decide
  · split at h
    · injection h with h; subst h; show (110 : Nat) ≠ 0; decide
    · split at h
      · split at h
        · rename_i g hg
          injection h with h; subst h; exact dev_bad he hg
        · cases h
      · split at h
        · split at h
          · rename_i g hg
            injection h with h; subst h; exact lnk_bad hg
          · cases h
        · injection h with h; subst h; show (110 : Nat) ≠ 0; decide
theorem rds_bad : ∀ (L : List (List Wd)) (i : Nat) (s : TSt) (f : Ft), rdsT i s L = .error f → f.2.2 ≠ 0
  | [], i, s, f, h => by rw [rdsT] at h; cases h
  | [] :: L, i, s, f, h => by rw [rdsT] at h; cases h
  | (x :: r) :: L, i, s, f, h => by
    rw [rdsT_cons] at h
    cases hL : linT i s x (Ru.endW (x :: r)) r with
    | error g =>
      rw [hL] at h
      have h' : (Except.error g : Except Ft TSt) = .error f := h
      injection h' with h'
      subst h'
      exact lin_bad (Ru.endW_text _) hL
    | ok s' =>
      rw [hL] at h
      exact rds_bad L (i + 1) s' f h
theorem prsT_bad {s : List UInt8} {f : Ft} (h : prsT s = .error f) : f.2.2 ≠ 0 := by
  unfold prsT at h
  split at h
  · rename_i h1
    injection h with h; subst h; exact h1
  · unfold readT at h
    split at h
    · injection h with h; subst h; show (110 : Nat) ≠ 0; decide
    · split at h
      · rename_i g hg
        injection h with h; subst h; exact rds_bad _ _ _ _ hg
      · split at h
        · injection h with h; subst h; show (113 : Nat) ≠ 0; decide
        · cases h
end Bk
end Go.Proofs.YtebaopiedlioiaaGreatDoor
namespace Go.Proofs.YtebaopiedlioiaaGreatDoor
open Go.RowKit

/-- All blocks stay but one, and those of bytes. -/
def FrT (b : Nat) (w w' : World) : Prop := ∀ (k : Nat) (cs : Array Value) (t : TypeId) (fz : Nat × Nat), k ≠ b → w.heap[k]? = some (.cells cs t fz) → t ≠ 5 → w'.heap[k]? = w.heap[k]?
theorem FrT.refl (b : Nat) (w : World) : FrT b w w := fun _ _ _ _ _ _ _ => rfl
theorem FrT.trans {b : Nat} {w w1 w2 : World} (h : FrT b w w1) (h2 : FrT b w1 w2) : FrT b w w2 := fun k cs t fz hk hc ht => by
  have e := h k cs t fz hk hc ht
  exact (h2 k cs t fz hk (e.trans hc) ht).trans e
theorem FrT.below {b : Nat} {w w' : World} (h : Below w.heap.size w w') : FrT b w w' := fun k _ _ _ _ hc _ => h.block k (lt_of_block hc)
theorem check_frT (B b : Nat) (l : List UInt8) (w : World) (h : Bu B b l w) :
    Calls Tryz.prog 144 #[.pointer (some ⟨b, 0, none⟩)] w fun e w' => e = .returned (.tuple #[]) ∧ Lib.BuilderAt 131 5 B b (.pointer (some ⟨b, 0, none⟩)) (Lib.byteCells l) w' ∧ Below B w w' ∧ FrT b w w' := by
  rcases h with h | h
  · refine (check_fresh b w h.cell0 h.shape h.frozen0).mono ?_
    rintro e w' ⟨rfl, rfl⟩
    exact ⟨rfl, h.used _, (Below.refl B w).setCell (p := ⟨b, 0, none⟩) h.1 _, fun k cs t fz hk _ _ => Below.heap_setCell _ _ _ _ (by exact hk)⟩
  · refine (check_used b w h.cell0).mono ?_
    rintro e w' ⟨rfl, rfl⟩
    exact ⟨rfl, h, Below.refl B _, FrT.refl _ _⟩
theorem FrT.put {B b : Nat} {bs : List Value} {v : Value} {n : Nat} {w wa w2 : World} (hown : w.ownsRow B 5 1 v n bs) (ha : wa = w ∨ ∃ o, wa = w.alloc o) (hg : wa.grownBy w2 v.ownBlock) (v' : Value) : FrT b w (w2.setCell ⟨b, 1, none⟩ v') := fun k cs t fz hk hc ht => by
  have hlt := lt_of_block hc
  have e1 : wa.heap[k]? = w.heap[k]? := by
    rcases ha with rfl | ⟨o, rfl⟩
    · rfl
    · exact Below.heap_alloc _ _ _ hlt
  have hl : k < wa.heap.size := by
    rcases ha with rfl | ⟨o, rfl⟩
    · exact hlt
    · simp; omega
  have hne : v.ownBlock ≠ some k := fun q => by
    rcases hown.2 with ⟨e, _⟩ | ⟨g, cap, cur, e, _, hh, _⟩
    · rw [e] at q; simp [Value.ownBlock] at q
    · rw [e] at q
      simp only [Value.ownBlock, Option.some.injEq] at q
      subst q
      rw [hh] at hc
      simp only [Option.some.injEq, Obj.cells.injEq] at hc
      exact ht hc.2.1.symm
  rw [Below.heap_setCell _ _ _ _ (by exact hk)]
  exact (hg.block k hl (fun q => hne q.symm)).trans e1

set_option maxRecDepth 100000 in
set_option maxHeartbeats 1000000 in
theorem WriteByte_frT (B b : Nat) (l : List UInt8) (c : UInt8) (w : World) (h : Bu B b l w) (hl : l.length ≤ 1073741824) (hB : B ≤ w.heap.size) :
    Calls Tryz.prog 105 #[.pointer (some ⟨b, 0, none⟩), bv c] w fun e w' => e = .returned .nilIface ∧ Hid (Bu B b (l ++ [c]) w') ∧ Below B w w' ∧ FrT b w w' := by
  obtain ⟨i0, hi, hz0, hz1, hz2⟩ := info_parts Tryz.infoU8
  have HI := hid hi
  have HZ0 := hid hz0
  have HZ1 := hid hz1
  have HZ2 := hid hz2
  clear hi hz0 hz1 hz2
  go_enter Tryz.func105, Tryz.ntmps105
  go_wp2_with fail
  refine (check_frT B b l w h).mono ?_
  rintro e w1 ⟨rfl, h1, hb1, hf1⟩
  obtain ⟨ao, cap, c1, f1, hbk, hown, hBb⟩ := bu_cells h1
  have HBK := hid hbk
  have HOWN := hid hown
  have hs1 := hb1.size
  obtain ⟨m, hm⟩ : ∃ m, m = (Lib.byteCells l).length := ⟨_, rfl⟩
  have HM := hid hm
  rw [← hm] at c1 hbk
  have hml : m ≤ 1073741824 := by rw [hm, Lib.byteCells_length]; exact hl
  clear hbk hown hm h1 h
  go_wp2_with (first | (at_builtin; refine wpList_append_own_at _ rfl _ _ 87 rfl B 5 i0 (.int .u8 0) 1 1 Tryz.underlying87 HI.out HZ0.out HZ1.out HZ2.out rfl (by decide) (.slice ao m cap) m (Lib.byteCells l) rfl (by rw [HM.out]; exact HOWN.out.alloc _) ⟨w1.heap.size, 0, none⟩ 1 1 [bv c] rfl rfl (new_cells _ #[bv c] _ _ rfl) ?c2 ?c3 ?c4 ?c5 ?_))
  case c2 => simp [Value.oneCell']
  case c3 => unfold maxLen; omega
  case c4 => omega
  case c5 => simp; omega
  intro v' w2 hown2 hg2 _ _
  obtain ⟨a2, cap2, rfl⟩ := own_form hown2
  rw [HM.out] at hown2 hg2
  obtain ⟨hb2, hat, hbel⟩ := bu_put HBK.out HOWN.out hBb (ys := [bv c]) hown2 hg2
  have HFR := hid (fun v => FrT.put (b := b) HOWN.out (Or.inr ⟨_, rfl⟩) hg2 v)
  have d1 := cell_at (o := 1) hb2
  have g1 := free_of (o := 1) hb2
  have HAT := hid hat
  have HBEL := hid (hbel (by omega))
  clear hb2 hat hbel hown2 hg2
  go_wp2
  go_ret
  rw [HM.out]
  refine ⟨rfl, ?_, hb1.trans HBEL.out, hf1.trans (HFR.out _)⟩
  show Bu B b (l ++ [c]) _
  rw [Bu, Lib.byteCells_append]
  exact Or.inr HAT.out


set_option maxRecDepth 100000 in
set_option maxHeartbeats 1000000 in
theorem WriteString_frT (B b : Nat) (l t : List UInt8) (w : World) (h : Bu B b l w) (hl : l.length ≤ 1073741824) (ht : t.length ≤ 1073741824) (hB : B ≤ w.heap.size) :
    Calls Tryz.prog 104 #[.pointer (some ⟨b, 0, none⟩), .string (tx t)] w fun e w' => e = .returned (.tuple #[.int .i64 t.length, .nilIface]) ∧ Hid (Bu B b (l ++ t) w') ∧ Below B w w' ∧ FrT b w w' := by
  obtain ⟨i0, hi, hz0, hz1, hz2⟩ := info_parts Tryz.infoU8
  have HI := hid hi
  have HZ0 := hid hz0
  have HZ1 := hid hz1
  have HZ2 := hid hz2
  clear hi hz0 hz1 hz2
  go_enter Tryz.func104, Tryz.ntmps104
  go_wp2_with fail
  refine (check_frT B b l w h).mono ?_
  rintro e w1 ⟨rfl, h1, hb1, hf1⟩
  obtain ⟨ao, cap, c1, f1, hbk, hown, hBb⟩ := bu_cells h1
  have HBK := hid hbk
  have HOWN := hid hown
  have hs1 := hb1.size
  obtain ⟨m, hm⟩ : ∃ m, m = (Lib.byteCells l).length := ⟨_, rfl⟩
  have HM := hid hm
  rw [← hm] at c1 hbk
  have hml : m ≤ 1073741824 := by rw [hm, Lib.byteCells_length]; exact hl
  have htz : (tx t).size ≤ 1073741824 := by rw [tx_size]; exact ht
  clear hbk hown hm h1 h
  go_wp2_with (first | (at_builtin; refine Lib.wpList_append_own_string _ rfl _ _ 87 9 rfl B 5 i0 Tryz.underlying87 Tryz.underlying9 HI.out HZ0.out HZ1.out HZ2.out (.slice ao m cap) m (Lib.byteCells l) rfl (by rw [HM.out]; exact HOWN.out) (tx t) rfl ?c3 ?c4 ?c5 ?_))
  case c3 => unfold maxLen; omega
  case c4 => omega
  case c5 => omega
  intro v' w2 hown2 hg2 _
  obtain ⟨a2, cap2, rfl⟩ := own_form hown2
  rw [HM.out] at hown2 hg2
  have hys : (Lib.strCells (tx t)).length = (tx t).size := by rw [Lib.strCells_eq, Lib.byteCells_length, list_size]
  obtain ⟨hb2, hat, hbel⟩ := bu_put' HBK.out HOWN.out hBb (ys := Lib.strCells (tx t)) (by rw [hys]; exact hown2) hg2
  have HFR := hid (fun v => FrT.put (b := b) HOWN.out (Or.inl rfl) hg2 v)
  have d1 := cell_at (o := 1) hb2
  have g1 := free_of (o := 1) hb2
  have HAT := hid hat
  have HBEL := hid (hbel (by omega))
  clear hb2 hat hbel hown2 hg2 hys
  go_wp2
  go_ret2
  rw [HM.out]
  refine ⟨rfl, ?_, hb1.trans HBEL.out, hf1.trans (HFR.out _)⟩
  show Bu B b (l ++ t) _
  rw [Bu, Lib.byteCells_append]
  exact Or.inr HAT.out

end Go.Proofs.YtebaopiedlioiaaGreatDoor
namespace Go.Proofs.YtebaopiedlioiaaGreatDoor
open Go.RowKit

/-- A row of texts of one's own, as what is appended. -/
theorem own_srcJ {w : World} {B : Nat} {v : Value} {n : Nat} {xs : List Value} (h : w.ownsRow B 9 1 v n xs) : (v = .slice none 0 0 ∧ n = 0 ∧ xs = []) ∨ ∃ ad c, v = .slice (some ad) n c ∧ xs.length = n * 1 ∧ ∀ j u, xs[j]? = some u → w.cell? (ad.add j) = some u := by
  rcases h.2 with ⟨e, h0⟩ | ⟨g, cap, cur, e, hB, hh, hn, _, _, ht⟩
  · left
    refine ⟨e, h0, ?_⟩
    have := h.1
    rw [h0] at this
    exact List.length_eq_zero_iff.1 (by omega)
  · right
    refine ⟨⟨g, 0, none⟩, cap, e, h.1, fun j u hu => ?_⟩
    rw [show (⟨g, 0, none⟩ : Addr).add j = ⟨g, j, none⟩ by unfold Addr.add; split <;> simp_all]
    rw [cell_at hh, ← Array.getElem?_toList]
    have : (cur.toList.take (n * 1))[j]? = some u := by rw [ht]; exact hu
    rw [List.getElem?_take] at this
    split at this
    · exact this
    · cases this
/-- What listWords has so far. -/
structure LwI (w : World) (k : List UInt8) (ns : List (List UInt8)) (j : Nat) (v : Value) (wr : World) : Prop where
  own : wr.ownsRow w.heap.size 9 1 v (2 * j) (svs (mkS k ns j))
  below : Below w.heap.size w wr
theorem Txs.at_ {w : World} {v : Value} {ns : List (List UInt8)} (h : Txs w v ns) : ∃ ao cap, v = .slice ao ns.length cap ∧ (ns = [] ∨ ∃ g o, ao = some ⟨g, o, none⟩ ∧ g < w.heap.size ∧ ∀ i, i < ns.length → w.cell? ⟨g, o + i, none⟩ = some (.string (tx (ns.getD i [])))) := h

set_option maxRecDepth 20000 in
set_option maxHeartbeats 2000000 in
theorem olistWords_any {w : World} {v : Value} {ns : List (List UInt8)} (h : Txs w v ns) (hn : ns.length ≤ 1000) (k : List UInt8) :
    Calls Tryz.prog 106 #[.string (tx k), v] w fun en w' => ∃ v', en = .returned v' ∧ w'.ownsRow w.heap.size 9 1 v' (2 * ns.length) (svs (mkS k ns ns.length)) ∧ Below w.heap.size w w' := by
  obtain ⟨i0, hi, hz0, hz1, hz2⟩ := info_parts Tryz.infoStrP
  have HI := hid hi
  have HZ0 := hid hz0
  have HZ1 := hid hz1
  have HZ2 := hid hz2
  clear hi hz0 hz1 hz2
  obtain ⟨ao, cap, rfl, hr⟩ := h
  have HR := hid hr
  obtain ⟨n, hnn⟩ : ∃ n, n = ns.length := ⟨_, rfl⟩
  have HN := hid hnn
  rw [← hnn] at hn ⊢
  clear hr hnn
  go_enter Tryz.func106, Tryz.ntmps106
  go_wp2_with fail
  go_loopw [5, 6, 8, 12] (fun u m _ i wr => ∃ (j : Nat) (v : Value), u = v ∧ m = .string (tx (if j = 0 then k else [44])) ∧ i = .int .i64 j ∧ j ≤ n ∧ Hid (LwI w k ns j v wr)) (fun _ _ _ i _ => n - (intOf i).toNat)
  case atStart => exact ⟨0, _, rfl, rfl, rfl, Nat.zero_le _, ⟨World.ownsRow_nil _ _ _ _, Below.refl _ _⟩⟩
  case round =>
    obtain ⟨j, v, rfl, rfl, rfl, hj, HJ⟩ := hrel
    have HO := hid HJ.out.own
    have HB := hid HJ.out.below
    obtain ⟨wo, wc', rfl⟩ := own_formJ HO.out
    have hsz : w.heap.size ≤ wr.heap.size := HB.out.size
    obtain ⟨mk, hmk⟩ : ∃ mk : List UInt8, mk = if j = 0 then k else [44] := ⟨_, rfl⟩
    rw [← hmk]
    by_cases hlt : j < n
    · obtain ⟨g, o, rfl, hg, hc⟩ := HR.out.resolve_left (fun e => by have := HN.out; rw [e] at this; simp at this; omega)
      have c0 := (HB.out.cell (p := ⟨g, o + j, none⟩) (by exact hg)).trans (hc j (by have := HN.out; omega))
      obtain ⟨p, hp⟩ : ∃ p, p = ns.getD j [] := ⟨_, rfl⟩
      rw [← hp] at c0
      have hkI : (j : Int) < (n : Int) := by omega
      have hk0 : (0 : Int) ≤ (j : Int) := by omega
      have HNX := hid (fun (v' : Value) (w5 : World) (ho : w5.ownsRow w.heap.size 9 1 v' (2 * j + 2) (svs (mkS k ns j) ++ [.string (tx mk), .string (tx p)])) => (show w5.ownsRow w.heap.size 9 1 v' (2 * (j + 1)) (svs (mkS k ns (j + 1))) from by
        have e : svs (mkS k ns (j + 1)) = svs (mkS k ns j) ++ [.string (tx mk), .string (tx p)] := by
          rw [hmk, hp]; simp [svs, mkS]
        rw [e, show 2 * (j + 1) = 2 * j + 2 by omega]
        exact ho))
      clear hp hc hmk
      go_wp2_with (first | (at_builtin; refine wpList_append_own_at _ rfl _ _ 47 rfl w.heap.size 9 i0 (.string (tx [])) 1 16 Tryz.underlying47 HI.out HZ0.out HZ1.out HZ2.out rfl (by decide) (.slice wo (2 * j) wc') (2 * j) (svs (mkS k ns j)) rfl (HO.out.alloc _) ⟨wr.heap.size, 0, none⟩ 2 2 [.string (tx mk), .string (tx p)] rfl rfl (new_cells _ #[.string (tx mk), .string (tx p)] _ _ rfl) ?c2 ?c3 ?c4 ?c5 ?_))
      case c2 => simp [Value.oneCell']
      case c3 => unfold maxLen; omega
      case c4 => omega
      case c5 => first | omega | (simp only [World.size_alloc]; omega)
      intro v' w5 hown5 hgrow5 _ _
      obtain ⟨a5, c5, rfl⟩ := own_formJ hown5
      have J5 := hid (HNX.out _ w5 hown5)
      have B5 := hid (show Below w.heap.size w w5 from (HB.out.alloc HB.out.size _).grown hgrow5 (by simp only [World.size_alloc]; omega) (fun q hq => (HO.out.lt q hq).1))
      clear hown5 hgrow5 HNX
      go_wp2
      go_roundw
      case rel => exact ⟨j + 1, _, rfl, by rw [if_neg (by omega)], by go_num, by omega, ⟨J5.out, B5.out⟩⟩
      case measure => simp [intOf]; omega
    · have hkI : ¬ (j : Int) < (n : Int) := by omega
      have hjn : j = n := by omega
      subst hjn
      clear hmk
      go_wp2
      go_ret
      exact ⟨_, rfl, HO.out, HB.out⟩
theorem Bu.belowJ {B b : Nat} {l : List UInt8} {w w' : World} (h : Bu B b l w) (hb : Below w.heap.size w w') : Bu B b l w' := by
  have key : ∀ {p : Value}, Lib.BuilderAt 131 5 B b p (Lib.byteCells l) w → Lib.BuilderAt 131 5 B b p (Lib.byteCells l) w' := by
    rintro p ⟨hB, v, h1, h2, h3⟩
    exact ⟨hB, v, below_block hb h1 (lt_of_block h1), h2.kept (grown_of_below none hb) (by rcases hv : v.ownBlock with _ | k; exact Or.inl rfl; exact Or.inr (by simp)), h3⟩
  exact h.elim (fun x => .inl (key x)) (fun x => .inr (key x))

set_option maxRecDepth 20000 in
set_option maxHeartbeats 1000000 in
/-- A line is said. -/
theorem osay_any {w : World} {B b : Nat} {l : List UInt8} (hb : Bu B b l w) {v : Value} {zs : List (List UInt8)} (h : Txs w v zs) (hn : zs.length ≤ 1000) (h4 : ∀ z ∈ zs, z.length ≤ 64) (hl : l.length ≤ 90000000) (hB : B ≤ w.heap.size) :
    Calls Tryz.prog 68 #[.pointer (some ⟨b, 0, none⟩), v] w fun en w' => en = .returned (.tuple #[]) ∧ Hid (Bu B b ((l ++ sayS zs) ++ [10]) w') ∧ Below B w w' ∧ FrT b w w' := by
  have HSY := hid (Say_anyX v zs w h (by omega) (fun l hl => by have := h4 l hl; omega))
  have hs : (sayS zs).length ≤ 65000 := Nat.le_trans (sayS_short h4) (by omega)
  have HBu := hid hb
  obtain ⟨ao, cap, rfl, -⟩ := h
  obtain ⟨t, ht⟩ : ∃ t, t = sayS zs := ⟨_, rfl⟩
  rw [← ht] at HSY hs ⊢
  clear hb h4 ht
  go_enter Tryz.func68, Tryz.ntmps68
  go_wp2_with fail
  refine HSY.out.mono ?_
  rintro en w4 ⟨rfl, hb4⟩
  have B4 := hid (show Below B w w4 from hb4.mono hB)
  have U4 := hid (HBu.out.belowJ hb4)
  have F4 := hid (show FrT b w w4 from FrT.below hb4)
  clear hb4
  go_wp2_with fail
  refine (WriteString_frT B b l t _ U4.out (by omega) (by omega) (by have := B4.out.size; omega)).mono ?_
  rintro en w5 ⟨rfl, U5, hb5, hf5⟩
  have F5 := hid (F4.out.trans hf5)
  have B5 := hid (B4.out.trans hb5)
  clear hb5 hf5
  go_wp2_with fail
  refine (WriteByte_frT B b (l ++ t) 10 _ U5.out (by rw [List.length_append]; omega) (by have := B5.out.size; omega)).mono ?_
  rintro en w6 ⟨rfl, U6, hb6, hf6⟩
  have F6 := hid (F5.out.trans hf6)
  have B6 := hid (B5.out.trans hb6)
  clear hb6 hf6
  go_wp2
  exact bodyPost_end (v := .tuple #[]) (by simp [results, Tryz.results68, go_sem]) rfl ⟨rfl, U6, B6.out, F6.out⟩
end Go.Proofs.YtebaopiedlioiaaGreatDoor
namespace Go.Proofs.YtebaopiedlioiaaGreatDoor
open Go.RowKit

set_option maxRecDepth 20000 in
set_option maxHeartbeats 2000000 in
theorem odeviceWords_any {w : World} {d : To.Dv} {u v : Value} (hu : Txs w u d.cls) (hv : Txs w v d.prt) (hc : d.cls.length ≤ 1000) (hp : d.prt.length ≤ 1000) :
    Calls Tryz.prog 69 #[.agg #[.string (tx d.name), u, v]] w fun en w' => ∃ v', en = .returned v' ∧ w'.ownsRow w.heap.size 9 1 v' (dvW d).length (svs (dvW d)) ∧ Below w.heap.size w w' := by
  obtain ⟨i0, hi, hz0, hz1, hz2⟩ := info_parts Tryz.infoStrP
  have HI := hid hi
  have HZ0 := hid hz0
  have HZ1 := hid hz1
  have HZ2 := hid hz2
  clear hi hz0 hz1 hz2
  have HLC := hid (fun (W : World) (hb : Below w.heap.size w W) => olistWords_any (hu.below hb) hc To.classT)
  have HLP := hid (fun (W : World) (hb : Below w.heap.size w W) => olistWords_any (hv.below hb) hp To.portT)
  obtain ⟨ua, uc, rfl, -⟩ := hu
  obtain ⟨va, vc, rfl, -⟩ := hv
  obtain ⟨cw, hcw⟩ : ∃ x, x = mkS To.classT d.cls d.cls.length := ⟨_, rfl⟩
  obtain ⟨pw, hpw⟩ : ∃ x, x = mkS To.portT d.prt d.prt.length := ⟨_, rfl⟩
  have hcl : 2 * d.cls.length = cw.length := by rw [hcw, mkS_len]
  have hpl : 2 * d.prt.length = pw.length := by rw [hpw, mkS_len]
  rw [← hcw, hcl] at HLC
  rw [← hpw, hpl] at HLP
  obtain ⟨nm, hnm⟩ : ∃ nm, nm = d.name := ⟨_, rfl⟩
  have HDW := hid (show dvW d = ([To.deviceT, nm] ++ cw) ++ pw by rw [hcw, hpw, hnm]; rfl)
  rw [← hnm]
  obtain ⟨Lc, hLc⟩ : ∃ L, L = d.cls.length := ⟨_, rfl⟩
  obtain ⟨Lp, hLp⟩ : ∃ L, L = d.prt.length := ⟨_, rfl⟩
  rw [← hLc] at HLC hcl hc ⊢
  rw [← hLp] at HLP hpl hp ⊢
  obtain ⟨cn, hcn⟩ : ∃ x, x = cw.length := ⟨_, rfl⟩
  obtain ⟨pn, hpn⟩ : ∃ x, x = pw.length := ⟨_, rfl⟩
  have HCN := hid hcn
  have HPN := hid hpn
  rw [← hcn] at HLC hcl
  rw [← hpn] at HLP hpl
  have hcn1 : cn ≤ 2000 := by omega
  have hpn1 : pn ≤ 2000 := by omega
  clear hcw hpw hnm hLc hLp hcn hpn hcl hpl hc hp
  obtain ⟨W1, hW1⟩ : ∃ W1, W1 = (w.alloc (dvOJ nm (.slice ua Lc uc) (.slice va Lp vc))).alloc (.cells #[.string (tx To.deviceT), .string (tx nm)] 9 (0, 0)) := ⟨_, rfl⟩
  have hb1 : Below w.heap.size w W1 := by rw [hW1]; exact ((Below.refl _ _).alloc (Nat.le_refl _) _).alloc (by simp) _
  have h10 : W1.heap[w.heap.size]? = some (dvOJ nm (.slice ua Lc uc) (.slice va Lp vc)) := by rw [hW1]; exact new_old _ _ (new_0 _ _)
  have O1 : W1.ownsRow w.heap.size 9 1 (.slice (some ⟨w.heap.size + 1, 0, none⟩) 2 2) 2 (svs [To.deviceT, nm]) :=
    ⟨rfl, Or.inr ⟨w.heap.size + 1, 2, #[.string (tx To.deviceT), .string (tx nm)], rfl, by omega, by rw [hW1]; exact new_1 _ _ _, Nat.le_refl _, by decide, rfl, rfl⟩⟩
  have HB1 := hid hb1
  have H10 := hid h10
  have HO1 := hid O1
  clear hb1 h10 O1
  go_enter Tryz.func69, Tryz.ntmps69
  go_wp2_with fail
  first | rw [← hW1] | (change Calls _ _ _ ((w.alloc (dvOJ nm (.slice ua Lc uc) (.slice va Lp vc))).alloc (.cells #[.string (tx To.deviceT), .string (tx nm)] 9 (0, 0))) _; rw [← hW1])
  clear hW1
  refine (HLC.out _ HB1.out).mono ?_
  rintro en w2 ⟨v2, rfl, hown2, hb2⟩
  have HB2 := hid (HB1.out.trans (hb2.mono HB1.out.size))
  have H20 := hid ((hb2.block _ (lt_of_block H10.out)).trans H10.out)
  have HO2 := hid (own_sameJ HO1.out fun k q => hb2.block k (HO1.out.lt k q).2)
  have HS2 := hid (own_srcJ hown2)
  obtain ⟨a2, c2, rfl⟩ := own_formJ hown2
  clear hown2 hb2
  go_wp2_with (first | (at_builtin; refine wpList_append_srcJ _ rfl (.tmp 7) (.tmp 10) 47 rfl w.heap.size 9 i0 (.string (tx [])) 1 16 Tryz.underlying47 HI.out HZ0.out HZ1.out HZ2.out rfl (by decide) (.slice (some ⟨w.heap.size + 1, 0, none⟩) 2 2) 2 (svs [To.deviceT, nm]) rfl HO2.out _ cn (svs cw) rfl HS2.out (svs_oneP _) (by unfold maxLen; omega) (by omega) HB2.out.size ?_))
  intro v3 w3 hown3 hg3
  have HB3 := hid (grew_belowP (Nat.le_refl _) HB2.out HO2.out hg3)
  have H30 := hid ((hg3.block _ (lt_of_block H20.out) (by simp [Value.ownBlock])).trans H20.out)
  have HO3 := hid hown3
  obtain ⟨a3, c3, rfl⟩ := own_formJ hown3
  clear hown3 hg3
  have k0 : w3.cell? ⟨w.heap.size, 2, none⟩ = some (.slice va Lp vc) := (dvOJ_cells H30.out).2.2
  go_wp2_with fail
  refine (HLP.out _ HB3.out).mono ?_
  rintro en w4 ⟨v4, rfl, hown4, hb4⟩
  have HB4 := hid (HB3.out.trans (hb4.mono HB3.out.size))
  have HO4 := hid (own_sameJ HO3.out fun k q => hb4.block k (HO3.out.lt k q).2)
  have HS4 := hid (own_srcJ hown4)
  obtain ⟨a4, c4, rfl⟩ := own_formJ hown4
  clear hown4 hb4 k0
  go_wp2_with (first | (at_builtin; refine wpList_append_srcJ _ rfl (.tmp 12) (.tmp 15) 47 rfl w.heap.size 9 i0 (.string (tx [])) 1 16 Tryz.underlying47 HI.out HZ0.out HZ1.out HZ2.out rfl (by decide) (.slice a3 (2 + cn) c3) (2 + cn) (svs [To.deviceT, nm] ++ svs cw) rfl HO4.out _ pn (svs pw) rfl HS4.out (svs_oneP _) (by unfold maxLen; omega) (by omega) HB4.out.size ?_))
  intro v5 w5 hown5 hg5
  have HB5 := hid (grew_belowP (Nat.le_refl _) HB4.out HO4.out hg5)
  have HO5 := hid (show w5.ownsRow w.heap.size 9 1 v5 (dvW d).length (svs (dvW d)) by
    have e : svs (dvW d) = (svs [To.deviceT, nm] ++ svs cw) ++ svs pw := by rw [HDW.out]; simp [svs]
    have e2 : (dvW d).length = 2 + cn + pn := by
      have h1 := HCN.out
      have h2 := HPN.out
      rw [HDW.out, List.length_append, List.length_append]
      show 2 + cw.length + pw.length = _
      omega
    rw [e, e2]
    exact hown5)
  obtain ⟨a5, c5, rfl⟩ := own_formJ hown5
  clear hown5 hg5
  go_wp2
  go_ret
  exact ⟨_, rfl, HO5.out, HB5.out⟩
end Go.Proofs.YtebaopiedlioiaaGreatDoor
namespace Go.Proofs.YtebaopiedlioiaaGreatDoor
open Go.RowKit

set_option maxRecDepth 20000 in
set_option maxHeartbeats 2000000 in
theorem onamesMayBe_any {w : World} {v : Value} {ps : List (List UInt8)} (ht : Txs w v ps) (hz : ∀ p ∈ ps, p.length ≤ maxLen) (hn : ps.length ≤ maxLen) (most : Nat) :
    Calls Tryz.prog 110 #[v, .int .i64 most] w fun e w' => e = .returned (.bool (nmsB most ps)) ∧ w' = w := by
  obtain ⟨ao, cap, rfl, hr⟩ := ht
  have HZ := hid hz
  have HR := hid hr
  obtain ⟨n, hnn⟩ : ∃ n, n = ps.length := ⟨_, rfl⟩
  have HN := hid hnn
  rw [← hnn] at hn ⊢
  have hnb : n ≤ 9223372036854775807 := by unfold maxLen at hn; omega
  clear hr hz hnn hn
  by_cases hmost : (most : Int) < (n : Int)
  · have HE := hid (show nmsB most ps = false by unfold nmsB; rw [decide_eq_false (by have := HN.out; omega)]; simp)
    go_enter Tryz.func110, Tryz.ntmps110
    go_wp2
    go_ret
    exact ⟨by rw [HE.out]; rfl, rfl⟩
  go_enter Tryz.func110, Tryz.ntmps110
  go_wp2_with fail
  go_loopw [5, 6, 13] (fun _ _ i wr => ∃ j : Nat, j ≤ n ∧ i = .int .i64 j ∧ Hid (∀ i, i < j → nmB ps i = true) ∧ Hid (wr = w)) (fun _ _ i _ => n - (intOf i).toNat)
  case atStart => exact ⟨0, Nat.zero_le _, rfl, hid fun i h => absurd h (Nat.not_lt_zero _), hid rfl⟩
  case round =>
    obtain ⟨j, hj, rfl, HG, HB⟩ := hrel
    obtain rfl := HB.out
    by_cases hlt : j < n
    · obtain ⟨g, o, hao, hg, hc⟩ : ∃ g o, ao = some ⟨g, o, none⟩ ∧ g < wr.heap.size ∧ ∀ i, i < ps.length → wr.cell? ⟨g, o + i, none⟩ = some (.string (tx (ps.getD i []))) := by
        rcases HR.out with q | q
        · exfalso; have := HN.out; rw [q] at this; simp at this; omega
        · exact q
      subst hao
      have HC := hid hc
      have HJ := hid (show j < ps.length by rw [← HN.out]; exact hlt)
      obtain ⟨p, hpq⟩ : ∃ p, p = ps.getD j [] := ⟨_, rfl⟩
      have HPQ := hid hpq
      have HU := hid (fun w' => Name_any (tx p) w' (by rw [tx_size, hpq]; exact HZ.out _ (mem_getD HJ.out)))
      rw [show (tx p).data.toList = p from by simp] at HU
      have c0 := HC.out j HJ.out
      rw [← hpq] at c0
      have i0 : (0 : Int) ≤ (j : Int) := by omega
      have i1 : (j : Int) < (n : Int) := by omega
      clear hc hpq hmost
      cases hnm : Wo.nameB p with
      | false =>
        have HNM := hid hnm
        rw [hnm] at HU
        clear hnm
        have HFIN := hid (show nmsB most ps = false from nmsB_false HJ.out (nmB_bad (by rw [← HPQ.out]; exact HNM.out)))
        go_wp2_with fail
        refine (HU.out _).mono ?_
        rintro en w1 ⟨rfl, hw1⟩
        obtain rfl : wr = w1 := hw1.symm
        go_wp2
        go_ret
        exact ⟨by rw [HFIN.out]; rfl, rfl⟩
      | true =>
        have HNM := hid hnm
        rw [hnm] at HU
        clear hnm
        cases j with
        | zero =>
          rw [Nat.add_zero] at c0
          have HG1 := hid (show ∀ i, i < 1 → nmB ps i = true from fun i hi => by rw [show i = 0 by omega]; exact nmB_zero (by rw [← HPQ.out]; exact HNM.out))
          go_wp2_with fail
          refine (HU.out _).mono ?_
          rintro en w1 ⟨rfl, hw1⟩
          obtain rfl : wr = w1 := hw1.symm
          go_wp2
          go_roundw
          case rel => exact ⟨1, by omega, by first | rfl | go_num, HG1, hid trivial⟩
          case measure => simp [intOf]; omega
        | succ i =>
          have c1 := HC.out i (by have := HJ.out; omega)
          obtain ⟨q, hq⟩ : ∃ q, q = ps.getD i [] := ⟨_, rfl⟩
          have HQ := hid hq
          rw [← hq] at c1
          have hpos : (0 : Int) < (i : Int) + 1 := by omega
          have hneg : (0 : Int) ≤ (i : Int) := by omega
          have hilt : (i : Int) < (n : Int) := by omega
          have k0 : (0 : Int) ≤ (i : Int) + 1 := by omega
          have k1 : (i : Int) + 1 < (n : Int) := by omega
          clear hq i0 i1
          cases hless : Op.bytesLess q p with
          | true =>
            have HL := hid (show q < p by rw [bytesLess_eq] at hless; simpa using hless)
            have HG1 := hid (show ∀ a, a < i + 1 + 1 → nmB ps a = true from fun a ha => by
              by_cases e : a = i + 1
              · rw [e]; exact nmB_succ (by rw [← HPQ.out]; exact HNM.out) (by rw [← HPQ.out, ← HQ.out]; exact HL.out)
              · exact HG.out a (by omega))
            go_wp2_with fail
            refine (HU.out _).mono ?_
            rintro en w1 ⟨rfl, hw1⟩
            obtain rfl : wr = w1 := hw1.symm
            go_wp2
            go_roundw
            case rel => exact ⟨i + 1 + 1, by omega, by go_num, HG1, hid trivial⟩
            case measure => simp [intOf]; omega
          | false =>
            have HL := hid (show ¬ q < p by rw [bytesLess_eq] at hless; simpa using hless)
            have HFIN := hid (show nmsB most ps = false from nmsB_false HJ.out (nmB_not (by rw [← HPQ.out, ← HQ.out]; exact HL.out)))
            go_wp2_with fail
            refine (HU.out _).mono ?_
            rintro en w1 ⟨rfl, hw1⟩
            obtain rfl : wr = w1 := hw1.symm
            go_wp2
            go_ret
            exact ⟨by rw [HFIN.out]; rfl, rfl⟩
    · have hI : ¬ ((j : Int) < (n : Int)) := by omega
      have hjn : j = n := by omega
      have HEQ := hid (show nmsB most ps = true by
        rw [nmsB_end (fun i hi => HG.out i (by have := HN.out; omega))]; exact decide_eq_true (by have := HN.out; omega))
      go_wp2
      go_ret
      exact ⟨by rw [HEQ.out]; rfl, rfl⟩

set_option maxRecDepth 20000 in
set_option maxHeartbeats 2000000 in
theorem odeviceMayBe_any {w : World} {nm : List UInt8} {cs ps : List (List UInt8)} {u v : Value} (hu : Txs w u cs) (hv : Txs w v ps) (hz1 : nm.length ≤ maxLen) (hz2 : ∀ p ∈ cs, p.length ≤ maxLen) (hz3 : ∀ p ∈ ps, p.length ≤ maxLen) (hl2 : cs.length ≤ maxLen) (hl3 : ps.length ≤ maxLen) :
    Calls Tryz.prog 75 #[.agg #[.string (tx nm), u, v]] w fun e w' => e = .returned (.bool ((Wo.nameB nm && nmsB 16 cs) && nmsB 64 ps)) ∧ Below w.heap.size w w' := by
  have HU := hid (fun w' => Name_any (tx nm) w' (by rw [tx_size]; exact hz1))
  rw [show (tx nm).data.toList = nm from by simp] at HU
  have HC := hid (fun (W : World) (hb : Below w.heap.size w W) => onamesMayBe_any (hu.below hb) hz2 hl2 16)
  have HP := hid (fun (W : World) (hb : Below w.heap.size w W) => onamesMayBe_any (hv.below hb) hz3 hl3 64)
  obtain ⟨ac, cc, rfl, -⟩ := hu
  obtain ⟨ap, cp, rfl, -⟩ := hv
  obtain ⟨Lc, hLc⟩ : ∃ L, L = cs.length := ⟨_, rfl⟩
  obtain ⟨Lp, hLp⟩ : ∃ L, L = ps.length := ⟨_, rfl⟩
  rw [← hLc] at HC ⊢
  rw [← hLp] at HP ⊢
  have HB := hid (fun (o : Obj) => (show Below w.heap.size w (w.alloc o) from (Below.refl _ _).alloc (Nat.le_refl _) _))
  clear hLc hLp hz1 hz2 hz3 hl2 hl3
  cases hn : Wo.nameB nm with
  | false =>
    rw [hn] at HU
    go_enter Tryz.func75, Tryz.ntmps75
    go_wp2_with fail
    refine (HU.out _).mono ?_
    rintro en w1 ⟨rfl, rfl⟩
    go_wp2
    go_ret
    exact ⟨rfl, HB.out _⟩
  | true =>
    rw [hn] at HU
    cases hc : nmsB 16 cs with
    | false =>
      rw [hc] at HC
      go_enter Tryz.func75, Tryz.ntmps75
      go_wp2_with fail
      refine (HU.out _).mono ?_
      rintro en w1 ⟨rfl, rfl⟩
      go_wp2_with fail
      refine (HC.out _ (HB.out _)).mono ?_
      rintro en w1 ⟨rfl, rfl⟩
      go_wp2
      go_ret
      exact ⟨rfl, HB.out _⟩
    | true =>
      rw [hc] at HC
      go_enter Tryz.func75, Tryz.ntmps75
      go_wp2_with fail
      refine (HU.out _).mono ?_
      rintro en w1 ⟨rfl, rfl⟩
      go_wp2_with fail
      refine (HC.out _ (HB.out _)).mono ?_
      rintro en w1 ⟨rfl, rfl⟩
      go_wp2_with fail
      refine (HP.out _ (HB.out _)).mono ?_
      rintro en w1 ⟨rfl, rfl⟩
      go_wp2
      go_ret
      exact ⟨rfl, HB.out _⟩
end Go.Proofs.YtebaopiedlioiaaGreatDoor
