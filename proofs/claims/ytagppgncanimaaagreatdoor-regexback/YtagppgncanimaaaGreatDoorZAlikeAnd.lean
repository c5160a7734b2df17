/-
  Proved: for every expression and every text the law RegexBack answers true (what is printed of an expression that may be is parsed as the same expression, or it is too deep and has more than 50 nodes; what is parsed of a text and printed is parsed as the same again, or is too deep), and leaves its arguments as they were. Conditions: the tables of Go's library and of the program start as the program's text lays them (the card's tie); none on the expression or the text.
  The law RegexBack answers true.
  The document's Same: it tells whether two trees are one.
  The program's Same of two trees that are one: it answers true, whatever is drawn.
-/
import Derived.Test.YtagppgncanimaaaGreatDoorZPairAnd
import Derived.Deep.LoopGhost
import Derived.Test.YtagppgncanimaaaGreatDoorZGoesAnd
import Derived.Test.YtagppgncanimaaaGreatDoorZAwakeAnd
import Derived.Deep.DeepCutAuto
import Derived.Test.YtagppgncanimaaaGreatDoorRows
import Derived.Test.YtagppgncanimaaaGreatDoorCards
import Derived.Test.YtagppgncanimaaaGreatDoorTie
import Derived.WalkKit
import Derived.ProofKit
import Derived.OpenShut
import Derived.ShutString
import Derived.Lay
import Derived.LaidOnce
import Derived.SevenTiedAt
import Derived.LaidSub
import Derived.MakeChecks
namespace Go.Proofs.YtagppgncanimaaaGreatDoor
open Go.RowKit Go

/-- How many nodes the lists have together. -/
def nodesQ (ps : List Pr) : Nat := (ps.map fun p => nodesL p.ks).sum
theorem nodesQ_app (a b : List Pr) : nodesQ (a ++ b) = nodesQ a + nodesQ b := by simp [nodesQ]
theorem nodesQ_one (p : Pr) : nodesQ [p] = nodesL p.ks := by simp [nodesQ]
theorem nodesQ_len {ps : List Pr} (h : ∀ p ∈ ps, p.ks ≠ []) : ps.length ≤ nodesQ ps := by
  induction ps with
  | nil => simp
  | cons p t ih =>
    have h1 := ih fun q hq => h q (List.mem_cons_of_mem _ hq)
    have h2 := length_le p.ks
    have h3 := List.length_pos_iff.2 (h p List.mem_cons_self)
    have e : nodesQ (p :: t) = nodesL p.ks + nodesQ t := by simp [nodesQ]
    rw [List.length_cons, e]
    omega
theorem PrKept.below {B : Nat} {w w' : World} {lb mb : Nat} {v v' : Value} {ps : List Pr} (h : PrAt B w lb mb v ps) (hk : PrKept B w w' lb mb v v') : Below B w w' :=
  ⟨hk.os, hk.tape, hk.output, hk.size, fun k hlt => hk.keep k ⟨by have := h.lbl; have := h.hl; omega, by have := h.hl; omega, by have := h.hm; omega, fun e => by have := (h.own.lt k e).1; omega⟩⟩
/-- A list of one. -/
theorem rxf_one {K : Nat → Prop} {w : World} {g c : Nat} {r : Rx} {v : Value} (hK : K g) (hg : w.heap[g]? = some (.cells #[.int .i64 r.op, .string (tx r.name), v] 25 (0, 0))) (hk : RxF K w v r.kids) : RxF K w (.slice (some ⟨g, 0, none⟩) 1 c) [r] := by
  refine RxF.some (K := K) (w := w) g 0 c [r] [v] hK (Array.getElem?_eq_some_iff.1 hg).1 (by simp [World.frozen?, hg]) rfl (fun i k u hk hu => ?_) (fun i k u hi hu => ?_)
  · cases i with
    | zero =>
      simp at hk hu
      subst hk hu
      rw [cell_at hg, cell_at hg, cell_at hg]
      exact ⟨rfl, rfl, rfl⟩
    | succ i => simp at hk
  · cases i with
    | zero =>
      simp at hi hu
      subst hi hu
      exact hk
    | succ i => simp at hi

theorem new_atX {w : World} (o : Obj) {k : Nat} (h : k = w.heap.size) : (w.alloc o).heap[k]? = some o := by
  subst h; exact new_0 _ _
/-- How alike begins. -/
theorem pStart {w W : World} {o0 o1 : Obj} {r : Rx} {va vb : Value} (hW : W = ((((((w.alloc o0).alloc o1).alloc (.map #[] 0)).alloc (.cells #[.slice none 0 0, .map (some (w.heap.size + 1 + 1))] 113)).alloc (rxo r.op r.name va)).alloc (rxo r.op r.name vb)))
    (ha : RxF (fun g => g < w.heap.size) w va r.kids) (hb : RxF (fun g => g < w.heap.size) w vb r.kids) :
    Below w.heap.size w W ∧ PrAt w.heap.size W (w.heap.size + 1 + 1 + 1) (w.heap.size + 1 + 1) (.slice none 0 0) [] ∧ RxF (Kst W (w.heap.size + 1 + 1 + 1) (w.heap.size + 1 + 1) (.slice none 0 0)) W (.slice (some ⟨w.heap.size + 1 + 1 + 1 + 1, 0, none⟩) 1 1) [r] ∧ RxF (Kst W (w.heap.size + 1 + 1 + 1) (w.heap.size + 1 + 1) (.slice none 0 0)) W (.slice (some ⟨w.heap.size + 1 + 1 + 1 + 1 + 1, 0, none⟩) 1 1) [r] := by
  have hB : Below w.heap.size w W := by
    rw [hW]
    exact ((((((Below.refl w.heap.size w).alloc (Nat.le_refl _) _).alloc (by simp only [World.size_alloc]; omega) _).alloc (by simp only [World.size_alloc]; omega) _).alloc (by simp only [World.size_alloc]; omega) _).alloc (by simp only [World.size_alloc]; omega) _).alloc (by simp only [World.size_alloc]; omega) _
  have hs : W.heap.size = w.heap.size + 1 + 1 + 1 + 1 + 1 + 1 := by rw [hW]; simp only [World.size_alloc]
  have e5 : W.heap[w.heap.size + 1 + 1 + 1 + 1 + 1]? = some (rxo r.op r.name vb) := by
    rw [hW]; exact new_atX _ (by simp only [World.size_alloc])
  have e4 : W.heap[w.heap.size + 1 + 1 + 1 + 1]? = some (rxo r.op r.name va) := by
    rw [hW, Below.heap_alloc _ _ _ (by simp only [World.size_alloc]; omega)]; exact new_atX _ (by simp only [World.size_alloc])
  have e3 : W.heap[w.heap.size + 1 + 1 + 1]? = some (.cells #[.slice none 0 0, .map (some (w.heap.size + 1 + 1))] 113) := by
    rw [hW, Below.heap_alloc _ _ _ (by simp only [World.size_alloc]; omega), Below.heap_alloc _ _ _ (by simp only [World.size_alloc]; omega)]; exact new_atX _ (by simp only [World.size_alloc])
  have e2 : W.heap[w.heap.size + 1 + 1]? = some (.map #[] 0) := by
    rw [hW, Below.heap_alloc _ _ _ (by simp only [World.size_alloc]; omega), Below.heap_alloc _ _ _ (by simp only [World.size_alloc]; omega), Below.heap_alloc _ _ _ (by simp only [World.size_alloc]; omega)]; exact new_atX _ (by simp only [World.size_alloc])
  have hK : ∀ g, g < w.heap.size → Kst W (w.heap.size + 1 + 1 + 1) (w.heap.size + 1 + 1) (.slice none 0 0) g := fun g hg => ⟨by omega, by omega, by omega, by simp [Value.ownBlock]⟩
  have hkk : KeepK (fun g => g < w.heap.size) w W := ⟨by omega, fun g hg _ => hB.block g hg⟩
  refine ⟨hB, ⟨by omega, by omega, e3, ⟨#[], 0, e2, fun e he => absurd he (by simp)⟩, World.ownsRow_nil _ _ _ _, fun p hp => absurd hp (by simp)⟩, ?_, ?_⟩
  · exact rxf_one ⟨by omega, by omega, by omega, by simp [Value.ownBlock]⟩ e4 ((ha.on hkk).mono hK)
  · exact rxf_one ⟨by omega, by omega, by omega, by simp [Value.ownBlock]⟩ e5 ((hb.on hkk).mono hK)

set_option maxRecDepth 20000 in
set_option maxHeartbeats 8000000 in
theorem alike_eq {w : World} {va vb : Value} {r : Rx} (ha : RxF (fun g => g < w.heap.size) w va r.kids) (hb : RxF (fun g => g < w.heap.size) w vb r.kids) (hn : r.nodes ≤ 1000) : Calls Tryz.prog 39 #[.agg #[.int .i64 r.op, .string (tx r.name), va], .agg #[.int .i64 r.op, .string (tx r.name), vb]] w fun e w' => e = .returned (.bool true) ∧ Below w.heap.size w w' := by
  have HST := hid (fun (o0 o1 : Obj) => pStart (o0 := o0) (o1 := o1) rfl ha hb)
  obtain ⟨ao, cap, rfl, -⟩ := ha.at
  obtain ⟨bo, cbp, rfl, -⟩ := hb.at
  obtain ⟨n, hnn⟩ : ∃ n, n = r.kids.length := ⟨_, rfl⟩
  rw [← hnn] at HST ⊢
  have hmm : ∀ w : World, (Instr.makeMap 110 none).run Tryz.prog w = .ok (.map (some w.heap.size)) (w.alloc (.map #[] 0)) := fun _ => rfl
  have HN := hid hn
  clear ha hb hnn hn
  go_enter Tryz.func39, Tryz.ntmps39
  go_wp2_with fail
  obtain ⟨s1, s2, s3, s4⟩ := HST.out (.cells #[.int .i64 r.op, .string (tx r.name), .slice ao n cap] 25) (.cells #[.int .i64 r.op, .string (tx r.name), .slice bo n cbp] 25)
  refine (pAdd_any (p := ⟨_, _, [r]⟩) s2 s3 s4 (by simp)).mono ?_
  rintro en w1 ⟨rfl, v1, ps1, h1, hps, hk1⟩
  have hB1 : Below w.heap.size w w1 := s1.trans (PrKept.below s2 hk1)
  have hq : nodesQ ps1 ≤ 1000 := by
    rcases hps with e | e
    · rw [e]; simp [nodesQ]
    · rw [e]; simp [nodesQ, nodesL]; exact HN.out
  obtain ⟨lb, hlb⟩ : ∃ lb, lb = w.heap.size + 1 + 1 + 1 := ⟨_, rfl⟩
  obtain ⟨mb, hmb⟩ : ∃ mb, mb = w.heap.size + 1 + 1 := ⟨_, rfl⟩
  rw [← hlb, ← hmb] at h1
  rw [← hlb]
  have H1 := hid h1
  have HB1 := hid hB1
  have HQ := hid hq
  clear s1 s2 s3 s4 h1 hps hk1 hB1 hq HST hlb
  go_wp2_with fail
  go_loopg [] (nodesQ ps1) (fun k wr => ∃ v ps, Hid (PrAt w.heap.size wr lb mb v ps ∧ Below w.heap.size w wr ∧ nodesQ ps = k ∧ k ≤ 1000))
  case atStart => exact ⟨v1, ps1, hid ⟨H1.out, HB1.out, rfl, HQ.out⟩⟩
  case round =>
    obtain ⟨v, ps, HR⟩ := hrel
    obtain ⟨av, vc, hv⟩ := own_form HR.out.1.own
    obtain ⟨c0, -, -⟩ := HR.out.1.cells
    rcases List.eq_nil_or_concat ps with rfl | ⟨ps0, p, rfl⟩
    · rw [hv] at c0
      simp only [List.length_nil] at c0
      have BF := hid HR.out.2.1
      clear HR H1 HB1 hv
      go_wp2
      go_ret
      exact ⟨rfl, BF.out⟩
    · have hpm : p ∈ ps0.concat p := by simp
      obtain ⟨hea, heb, hne⟩ := HR.out.1.each p hpm
      have hln := nodesQ_len (fun q hq => (HR.out.1.each q hq).2.2)
      have hqe : nodesQ (ps0.concat p) = nodesQ ps0 + nodesL p.ks := by rw [List.concat_eq_append, nodesQ_app, nodesQ_one]
      have hgk : nodesQ ps0 + nodesL p.ks = gk := by rw [← hqe]; exact HR.out.2.2.1
      have hgb := HR.out.2.2.2
      rw [HR.out.2.2.1] at hln
      simp only [List.concat_eq_append, List.length_append, List.length_singleton] at hln
      obtain ⟨pao, pac, ea, -⟩ := hea.at
      obtain ⟨pbo, pbc, eb, -⟩ := heb.at
      obtain ⟨n2, hn2⟩ : ∃ n2, n2 = p.ks.length := ⟨_, rfl⟩
      have hn2p : 0 < n2 := by rw [hn2]; exact List.length_pos_iff.2 hne
      have hkl := length_le p.ks
      rw [← hn2] at ea eb hkl
      have hPN : PrAt w.heap.size wr lb mb v (ps0 ++ [p]) := by have := HR.out.1; rw [List.concat_eq_append] at this; exact this
      have HNX : Hid (Calls Tryz.prog 62 #[.pointer (some ⟨lb, 0, none⟩)] wr fun en w2 => en = .returned (.agg #[.slice pao n2 pac, .slice pbo n2 pbc]) ∧ ∃ v2, Hid (PrAt w.heap.size w2 lb mb v2 ps0 ∧ PrKept w.heap.size wr w2 lb mb v v2 ∧ RxF (Kst w2 lb mb v2) w2 (.slice pao n2 pac) p.ks ∧ RxF (Kst w2 lb mb v2) w2 (.slice pbo n2 pbc) p.ks)) := hid ((pNext_any hPN (by omega)).mono (by
        rintro en w2 ⟨he, v2, h2, hk2⟩
        exact ⟨by rw [he, ea, eb], v2, hid ⟨h2, hk2, by rw [← ea]; exact hea.kept hk2, by rw [← eb]; exact heb.kept hk2⟩⟩))
      rw [hv] at c0
      simp only [List.concat_eq_append, List.length_append, List.length_singleton] at c0
      have hI : (0 : Int) < (ps0.length : Int) + 1 := by omega
      have HHN := hid hn2
      have BR := hid HR.out.2.1
      have PW := hid hPN
      clear HR H1 HB1 hv hea heb hne hqe hpm ea eb hn2 hPN
      go_wp2_with fail
      refine HNX.out.mono ?_
      rintro en w2 ⟨rfl, v2, HX⟩
      clear c0 HNX
      have BW := hid (BR.out.trans (PrKept.below PW.out HX.out.2.1))
      clear PW BR
      have W1 := hid (fun (ob : Obj) => (show Below w2.heap.size w2 (w2.alloc ob) from (Below.refl _ _).alloc (Nat.le_refl _) _))
      have HX1 := hid (fun (ob : Obj) => (show PrAt w.heap.size (w2.alloc ob) lb mb v2 ps0 ∧ Kst (w2.alloc ob) lb mb v2 w2.heap.size ∧ RxF (Kst (w2.alloc ob) lb mb v2) (w2.alloc ob) (.slice pao n2 pac) p.ks ∧ RxF (Kst (w2.alloc ob) lb mb v2) (w2.alloc ob) (.slice pbo n2 pbc) p.ks from (by
        have hk := PrAt.kept (B := w.heap.size) (lb := lb) (mb := mb) (v := v2) (W1.out ob)
        have h1 := HX.out.1
        refine ⟨h1.below (W1.out ob), ⟨by simp, by have := h1.lbl; omega, by have := h1.mbl; omega, fun e => ?_⟩, HX.out.2.2.1.kept hk, HX.out.2.2.2.kept hk⟩
        have := (h1.own.lt _ e).2
        omega)))
      have BW1 := hid (fun (ob : Obj) => (show Below w.heap.size w (w2.alloc ob) from BW.out.alloc BW.out.size _))
      clear HX BW W1
      go_wp2_with fail
      go_loopw [26] (fun i wx => ∃ j : Nat, j ≤ n2 ∧ i = .int .i64 j ∧ ∃ v3 ps3, Hid (PrAt w.heap.size wx lb mb v3 ps3 ∧ PrKept w.heap.size (w2.alloc (.cells #[.slice pao n2 pac, .slice pbo n2 pbc] 116)) wx lb mb v2 v3 ∧ nodesQ ps3 + j ≤ nodesQ ps0 + nodesL (p.ks.take j))) (fun i _ => n2 - (intOf i).toNat)
      case atStart => exact ⟨0, Nat.zero_le _, rfl, v2, ps0, hid ⟨(HX1.out _).1, PrKept.refl _ _ _ _ _, by simp [nodesL]⟩⟩
      case round =>
        obtain ⟨j, hj, rfl, v3, ps3, HJ⟩ := hrel
        by_cases hlt : j < n2
        · obtain ⟨k, hk⟩ : ∃ k, p.ks[j]? = some k := ⟨p.ks[j]'(by rw [← HHN.out]; exact hlt), List.getElem?_eq_getElem _⟩
          obtain ⟨-, hkp, hra, hrb⟩ := HX1.out (.cells #[.slice pao n2 pac, .slice pbo n2 pbc] 116)
          have hke := HJ.out.2.1
          obtain ⟨qa, qc, e1, f1⟩ := (hra.kept hke).at
          obtain ⟨qb, qd, e2, f2⟩ := (hrb.kept hke).at
          injection e1 with e1 e1n e1c
          injection e2 with e2 e2n e2c
          subst e1 e2
          have hnz : p.ks ≠ [] := fun e => by rw [e] at hk; simp at hk
          obtain ⟨g, o, rfl, hKg, hgl, hgf, hc⟩ := f1.resolve_left hnz
          obtain ⟨g', o', rfl, hKg', hgl', hgf', hc'⟩ := f2.resolve_left hnz
          obtain ⟨u, un, uc, a0, a1, a2, hun, hr⟩ := hc j k hk
          obtain ⟨u', un', uc', b0, b1, b2, hun', hr'⟩ := hc' j k hk
          have huu : un' = un := by rw [hun, hun']
          subst huu
          have hb0 : (w2.alloc (.cells #[.slice (some ⟨g, o, none⟩) n2 pac, .slice (some ⟨g', o', none⟩) n2 pbc] 116)).heap[w2.heap.size]? = some (.cells #[.slice (some ⟨g, o, none⟩) n2 pac, .slice (some ⟨g', o', none⟩) n2 pbc] 116) := new_0 _ _
          have hb1 := (hke.keep _ hkp).trans hb0
          have d1 : wr.cell? ⟨w2.heap.size, 1, none⟩ = some (.slice (some ⟨g', o', none⟩) n2 pbc) := by rw [cell_at hb1]; rfl
          have hwl : w2.heap.size < wr.heap.size := (Array.getElem?_eq_some_iff.1 hb1).1
          have hnq : ps3.length ≤ 1000 := by
            have h1 := nodesQ_len (fun q hq => (HJ.out.1.each q hq).2.2)
            have h2 := HJ.out.2.2
            have h3 := nodesL_take (ks := p.ks) j
            omega
          have HAD : Hid (∀ x y : Obj, Calls Tryz.prog 61 #[.pointer (some ⟨lb, 0, none⟩), .agg #[.slice u un' uc, .slice u' un' uc']] ((wr.alloc x).alloc y) fun en w4 => en = .returned (.tuple #[]) ∧ ∃ v4 ps4, Hid (PrAt w.heap.size w4 lb mb v4 ps4 ∧ PrKept w.heap.size (w2.alloc (.cells #[.slice (some ⟨g, o, none⟩) n2 pac, .slice (some ⟨g', o', none⟩) n2 pbc] 116)) w4 lb mb v2 v4 ∧ nodesQ ps4 + (j + 1) ≤ nodesQ ps0 + nodesL (p.ks.take (j + 1)))) := hid fun x y => by
            have hbb : Below wr.heap.size wr ((wr.alloc x).alloc y) := ((Below.refl _ _).alloc (Nat.le_refl _) _).alloc (by simp) _
            have hkk := PrAt.kept (B := w.heap.size) (lb := lb) (mb := mb) (v := v3) hbb
            refine (pAdd_any (p := ⟨.slice u un' uc, .slice u' un' uc', k.kids⟩) (HJ.out.1.below hbb) (hr.kept hkk) (hr'.kept hkk) (by omega)).mono ?_
            rintro en w4 ⟨rfl, v4, ps4, h4, hp4, hk4⟩
            refine ⟨rfl, v4, ps4, hid ⟨h4, hke.trans (hkk.trans hk4), ?_⟩⟩
            have h5 := HJ.out.2.2
            rw [take_snocR hk, nodesL_snoc, k.nodes_kids]
            rcases hp4 with e | e
            · rw [e]; omega
            · rw [e, nodesQ_app, nodesQ_one]
              show nodesQ ps3 + nodesL k.kids + (j + 1) ≤ _
              omega
          have hkI : (j : Int) < (n2 : Int) := by omega
          have hk0 : (0 : Int) ≤ (j : Int) := by omega
          clear hk hra hrb hke f1 f2 hnz hc hc' hr hr' hb0 hb1 hKg hKg' hgf hgf' hkp hun hun' HJ HX1 e1n e1c e2n e2c hnq
          go_wp2_with fail
          refine (HAD.out _ _).mono ?_
          rintro en w4 ⟨rfl, v4, ps4, H4⟩
          go_wp2
          go_roundw
          case rel => exact ⟨j + 1, by omega, by go_num, v4, ps4, H4⟩
          case measure => simp [intOf]; omega
        · have hkI : ¬ ((j : Int) < (n2 : Int)) := by omega
          have hje : j = n2 := by omega
          have hms : nodesQ ps3 < gk := by
            have h5 := HJ.out.2.2
            rw [hje, HHN.out, List.take_length] at h5
            have := HHN.out
            omega
          have HFI := hid (show PrAt w.heap.size wr lb mb v3 ps3 ∧ Below w.heap.size w wr from ⟨HJ.out.1, (BW1.out _).trans (PrKept.below (HX1.out _).1 HJ.out.2.1)⟩)
          clear HJ
          go_wp2
          go_roundg (nodesQ ps3)
          case measure => exact hms
          case rel => exact ⟨v3, ps3, hid ⟨HFI.out.1, HFI.out.2, rfl, by omega⟩⟩

set_option maxHeartbeats 2000000 in
/-- The program's Same of two trees that are one. -/
theorem gSame_eq {w : World} {va vb : Value} {r : Rx} (ha : RxF (fun g => g < w.heap.size) w va r.kids) (hb : RxF (fun g => g < w.heap.size) w vb r.kids) (hn : r.nodes ≤ 1000) : Calls Tryz.prog 16 #[.agg #[.int .i64 r.op, .string (tx r.name), va], .agg #[.int .i64 r.op, .string (tx r.name), vb]] w fun e w' => e = .returned (.bool true) ∧ Below w.heap.size w w' := by
  have HAL := hid (fun (W : World) (hB : Below w.heap.size w W) => (by
    have hkk : KeepK (fun g => g < w.heap.size) w W := ⟨hB.size, fun g hg _ => hB.block g hg⟩
    exact alike_eq (w := W) (ha.on hkk).lt (hb.on hkk).lt hn : Calls Tryz.prog 39 #[.agg #[.int .i64 r.op, .string (tx r.name), va], .agg #[.int .i64 r.op, .string (tx r.name), vb]] W fun e w' => e = .returned (.bool true) ∧ Below W.heap.size W w'))
  obtain ⟨ao, cap, rfl, -⟩ := ha.at
  obtain ⟨bo, cbp, rfl, -⟩ := hb.at
  have HB := hid (fun (x y : Obj) => (show Below w.heap.size w ((w.alloc x).alloc y) from ((Below.refl _ _).alloc (Nat.le_refl _) _).alloc (by simp) _))
  clear ha hb hn
  go_enter Tryz.func16, Tryz.ntmps16
  go_wp2_with fail
  refine (HAL.out _ (HB.out _ _)).mono ?_
  rintro en w1 ⟨rfl, hb1⟩
  have BF := hid (below_2x (HB.out _ _) hb1)
  clear hb1
  go_wp2
  go_ret
  exact ⟨rfl, BF.out⟩
end Go.Proofs.YtagppgncanimaaaGreatDoor
namespace Go.Proofs.YtagppgncanimaaaGreatDoor
open Go.RowKit

/-- What a call that compares leaves. -/
def SamePost (w : World) (r s : Rx) (e : Ending) (w' : World) : Prop := (∃ q, e = .returned (.bool q) ∧ (q = true ↔ r = s)) ∧ Below w.heap.size w w'
theorem Rx.ext_iff3 (r s : Rx) : r = s ↔ r.op = s.op ∧ r.name = s.name ∧ r.kids = s.kids := by
  cases r; cases s
  simp [Rx.op, Rx.name, Rx.kids]

set_option maxRecDepth 20000 in
set_option maxHeartbeats 2000000 in
theorem RSame_any (r : Rx) : ∀ {w : World} {v u : Value} {s : Rx}, RxS w v r.kids → RxS w u s.kids → r.nodes ≤ 1000 → Calls Tryz.prog 17 #[.agg #[.int .i64 r.op, .string (tx r.name), v], .agg #[.int .i64 s.op, .string (tx s.name), u]] w fun e w' => SamePost w r s e w' := by
  induction r using Rx.ind with
  | h r ih =>
    intro w v u s hR hS hn
    have hnk := r.nodes_kids
    have hlk := length_le r.kids
    have HI := hid (fun (W : World) (k m : Rx) (hk : k ∈ r.kids) (x y : Value) (hx : RxS W x k.kids) (hy : RxS W y m.kids) => ih k hk hx hy (by have := nodesL_mem hk; omega))
    obtain ⟨ao, cap, rfl, hat⟩ := hR.at
    obtain ⟨bo, cbp, rfl, hbt⟩ := hS.at
    have HEX := hid (Rx.ext_iff3 r s)
    have BA := hid (fun (x y : Obj) => (show Below w.heap.size w ((w.alloc x).alloc y) from ((Below.refl _ _).alloc (Nat.le_refl _) _).alloc (by simp) _))
    by_cases ho : r.op = s.op
    · by_cases hm : r.name = s.name
      · by_cases hl : r.kids.length = s.kids.length
        · obtain ⟨ks, hks⟩ : ∃ ks, ks = r.kids := ⟨_, rfl⟩
          obtain ⟨ms, hms⟩ : ∃ ms, ms = s.kids := ⟨_, rfl⟩
          have HEX2 := hid (show r = s ↔ ks = ms by rw [HEX.out, hks, hms]; exact ⟨fun q => q.2.2, fun q => ⟨ho, hm, q⟩⟩)
          rw [← hks] at HI hlk hat hnk hl ⊢
          rw [← hms] at hl hbt ⊢
          rw [← ho, ← hm, ← hl]
          obtain ⟨n, hnn⟩ : ∃ n, n = ks.length := ⟨_, rfl⟩
          have HN := hid hnn
          have HM := hid (hnn.trans hl)
          rw [← hnn] at hlk ⊢
          have hnb : n ≤ 1000 := by omega
          obtain ⟨op, hop⟩ : ∃ op, op = r.op := ⟨_, rfl⟩
          obtain ⟨nm, hnm⟩ : ∃ nm, nm = r.name := ⟨_, rfl⟩
          rw [← hop, ← hnm]
          have HX1 := hid (show boxed w (.mk op nm []) (.slice ao n cap) ((w.alloc (rxo op nm (.slice ao n cap))).alloc (rxo op nm (.slice bo n cbp))) from (boxed.start w (.mk op nm []) (.slice ao n cap)).alloc (by simp) _)
          have HX2 := hid (show boxed (w.alloc (rxo op nm (.slice ao n cap))) (.mk op nm []) (.slice bo n cbp) ((w.alloc (rxo op nm (.slice ao n cap))).alloc (rxo op nm (.slice bo n cbp))) from boxed.start _ _ _)
          have HAT := hid hat
          have HBT := hid hbt
          clear ih hR hS hn hnk hlk hat hbt HEX BA ho hm hl hks hms hnn hop hnm
          go_enter Tryz.func17, Tryz.ntmps17
          go_wp2_with fail
          go_loopw [5] (fun i wr => ∃ j : Nat, j ≤ n ∧ i = .int .i64 j ∧ Hid (ks.take j = ms.take j) ∧ Hid (boxed w (.mk op nm []) (.slice ao n cap) wr) ∧ Hid (boxed (w.alloc (rxo op nm (.slice ao n cap))) (.mk op nm []) (.slice bo n cbp) wr)) (fun i _ => n - (intOf i).toNat)
          case atStart => exact ⟨0, Nat.zero_le _, rfl, rfl, HX1, HX2⟩
          case round =>
            obtain ⟨j, hj, rfl, HQ, B1, B2⟩ := hrel
            obtain ⟨-, -, c2⟩ := B1.out.cells
            obtain ⟨-, -, d2⟩ := B2.out.cells
            rw [World.size_alloc] at d2
            by_cases hlt : j < n
            · obtain ⟨k, hk⟩ : ∃ k, ks[j]? = some k := ⟨ks[j]'(by rw [← HN.out]; exact hlt), List.getElem?_eq_getElem _⟩
              obtain ⟨m, hm⟩ : ∃ m, ms[j]? = some m := ⟨ms[j]'(by rw [← HM.out]; exact hlt), List.getElem?_eq_getElem _⟩
              have hmem := List.mem_of_getElem? hk
              have hmem2 := List.mem_of_getElem? hm
              obtain ⟨g, o, rfl, hg, hc⟩ := HAT.out.resolve_left (fun e => by rw [e] at hmem; cases hmem)
              obtain ⟨g', o', rfl, hg', hc'⟩ := HBT.out.resolve_left (fun e => by rw [e] at hmem2; cases hmem2)
              obtain ⟨u, un, uc, a0, a1, a2, -, hr⟩ := hc j k hk
              obtain ⟨u', un', uc', b0, b1, b2, -, hr'⟩ := hc' j m hm
              have L := hid B1.out.low
              have k0 := (L.out.cell (p := ⟨g, o + j * 3, none⟩) (by exact hg)).trans a0
              have k1 := (L.out.cell (p := ⟨g, o + j * 3 + 1, none⟩) (by exact hg)).trans a1
              have k2 := (L.out.cell (p := ⟨g, o + j * 3 + 2, none⟩) (by exact hg)).trans a2
              have m0 := (L.out.cell (p := ⟨g', o' + j * 3, none⟩) (by exact hg')).trans b0
              have m1 := (L.out.cell (p := ⟨g', o' + j * 3 + 1, none⟩) (by exact hg')).trans b1
              have m2 := (L.out.cell (p := ⟨g', o' + j * 3 + 2, none⟩) (by exact hg')).trans b2
              have E1 := hid (B1.out.drew)
              have E2 := hid (B2.out.drew)
              have HSS := hid (fun (w' : World) (f1 : boxed w (.mk op nm []) (.slice (some ⟨g, o, none⟩) n cap) w') (f2 : boxed (w.alloc (rxo op nm (.slice (some ⟨g, o, none⟩) n cap))) (.mk op nm []) (.slice (some ⟨g', o', none⟩) n cbp) w') => (show w'.cell? ⟨w.heap.size, 2, none⟩ = some (.slice (some ⟨g, o, none⟩) n cap) ∧ w'.cell? ⟨w.heap.size + 1, 2, none⟩ = some (.slice (some ⟨g', o', none⟩) n cbp) ∧ w'.cell? ⟨g, o + j * 3, none⟩ = some (.int .i64 k.op) ∧ w'.cell? ⟨g, o + j * 3 + 1, none⟩ = some (.string (tx k.name)) ∧ w'.cell? ⟨g, o + j * 3 + 2, none⟩ = some (.slice u un uc) ∧ w'.cell? ⟨g', o' + j * 3, none⟩ = some (.int .i64 m.op) ∧ w'.cell? ⟨g', o' + j * 3 + 1, none⟩ = some (.string (tx m.name)) ∧ w'.cell? ⟨g', o' + j * 3 + 2, none⟩ = some (.slice u' un' uc') from
                ⟨f1.cells.2.2, by have := f2.cells.2.2; rw [World.size_alloc] at this; exact this, (f1.low.cell (p := ⟨g, o + j * 3, none⟩) (by exact hg)).trans a0, (f1.low.cell (p := ⟨g, o + j * 3 + 1, none⟩) (by exact hg)).trans a1, (f1.low.cell (p := ⟨g, o + j * 3 + 2, none⟩) (by exact hg)).trans a2, (f1.low.cell (p := ⟨g', o' + j * 3, none⟩) (by exact hg')).trans b0, (f1.low.cell (p := ⟨g', o' + j * 3 + 1, none⟩) (by exact hg')).trans b1, (f1.low.cell (p := ⟨g', o' + j * 3 + 2, none⟩) (by exact hg')).trans b2⟩))
              have HC := hid (HI.out wr.drew k m hmem _ _ (hr.on (boxed.low E1.out)) (hr'.on (boxed.low E1.out)))
              have HS1 := hid (show k = m → ks.take (j + 1) = ms.take (j + 1) by intro e; rw [take_snocR hk, take_snocR hm, HQ.out, e])
              have HS2 := hid (show ks = ms → k = m by intro e; rw [e, hm] at hk; exact (Option.some.inj hk).symm)
              have hkI : (j : Int) < (n : Int) := by omega
              have hk0 : (0 : Int) ≤ (j : Int) := by omega
              clear hk hm hmem hmem2 hc hc' a0 a1 a2 b0 b1 b2 hr hr' L
              go_wp2_with fail
              go_region_held3 (fun w' => w'.cell? ⟨w.heap.size, 2, none⟩ = some (.slice (some ⟨g, o, none⟩) n cap) ∧ w'.cell? ⟨w.heap.size + 1, 2, none⟩ = some (.slice (some ⟨g', o', none⟩) n cbp) ∧ w'.cell? ⟨g, o + j * 3, none⟩ = some (.int .i64 k.op) ∧ w'.cell? ⟨g, o + j * 3 + 1, none⟩ = some (.string (tx k.name)) ∧ w'.cell? ⟨g, o + j * 3 + 2, none⟩ = some (.slice u un uc) ∧ w'.cell? ⟨g', o' + j * 3, none⟩ = some (.int .i64 m.op) ∧ w'.cell? ⟨g', o' + j * 3 + 1, none⟩ = some (.string (tx m.name)) ∧ w'.cell? ⟨g', o' + j * 3 + 2, none⟩ = some (.slice u' un' uc')) (first | (go_keep; done) | exact S3) (first | (go_at_call 17; refine HC.out.mono ?_; rintro en w3 ⟨⟨q, rfl, hq⟩, hb3⟩; have D1 := hid (boxed.on E1.out hb3); have D2 := hid (boxed.on E2.out hb3); have S3 := HSS.out _ D1.out D2.out) | fail)
              have HQQ := hid hq
              clear hb3 c2 d2 k0 k1 k2 m0 m1 m2 hq S3
              cases q with
              | true =>
                have HQ1 := hid (HS1.out (HQQ.out.1 rfl))
                go_wp2
                go_roundw
                case rel => exact ⟨j + 1, by omega, by go_num, HQ1, D1, D2⟩
                case measure => simp [intOf]; omega
              | false =>
                have HF := hid (show (false = true ↔ r = s) from ⟨fun e => (Bool.false_ne_true e).elim, fun e => HQQ.out.2 (HS2.out (HEX2.out.1 e))⟩)
                go_wp2
                go_ret
                exact ⟨⟨false, rfl, HF.out⟩, D1.out.low⟩
            · have hkI : ¬ ((j : Int) < (n : Int)) := by omega
              have HF := hid (show r = s from HEX2.out.2 (by
                have q := HQ.out
                have e1 := HN.out
                have e2 := HM.out
                rw [List.take_of_length_le (by omega), List.take_of_length_le (by omega)] at q
                exact q))
              go_wp2
              go_ret
              exact ⟨⟨true, rfl, ⟨fun _ => HF.out, fun _ => rfl⟩⟩, B1.out.low⟩
        · have hlI : ((r.kids.length : Int) == (s.kids.length : Int)) = false := by rw [beq_eq_false_iff_ne]; omega
          have HF := hid (show (false = true ↔ r = s) from ⟨fun e => (Bool.false_ne_true e).elim, fun e => absurd (by rw [e]) hl⟩)
          rw [← ho, ← hm]
          clear ih hR hS hat hbt HEX HI ho hm hl
          go_enter Tryz.func17, Tryz.ntmps17
          go_wp2
          go_ret
          exact ⟨⟨false, rfl, HF.out⟩, BA.out _ _⟩
      · have HF := hid (show (false = true ↔ r = s) from ⟨fun e => (Bool.false_ne_true e).elim, fun e => absurd (by rw [e]) hm⟩)
        rw [← ho]
        clear ih hR hS hat hbt HEX HI ho
        go_enter Tryz.func17, Tryz.ntmps17
        go_wp2
        go_ret
        exact ⟨⟨false, rfl, HF.out⟩, BA.out _ _⟩
    · have hoI : (r.op == s.op) = false := by rw [beq_eq_false_iff_ne]; exact ho
      have HF := hid (show (false = true ↔ r = s) from ⟨fun e => (Bool.false_ne_true e).elim, fun e => absurd (by rw [e]) ho⟩)
      clear ih hR hS hat hbt HEX HI
      go_enter Tryz.func17, Tryz.ntmps17
      go_wp2
      go_ret
      exact ⟨⟨false, rfl, HF.out⟩, BA.out _ _⟩
end Go.Proofs.YtagppgncanimaaaGreatDoor
namespace Go.Proofs.YtagppgncanimaaaGreatDoor
open Go.RowKit Go

set_option maxRecDepth 20000 in
set_option maxHeartbeats 8000000 in
theorem back_any {w : World} {v : Value} {r : Rx} {s : ByteArray} (hS : RxF (fun g => g < w.heap.size) w v r.kids) (hF : r.Fit) (hAw : Awake9) : Calls Tryz.prog 4 #[.agg #[.int .i64 r.op, .string (tx r.name), v], .string s] w fun e w' => e = .returned (.bool true) ∧ Below w.heap.size w w' := by
  have HAw := hid hAw
  unfold Awake9 at HAw
  have hon : ∀ W : World, Below w.heap.size w W → RxF (fun g => g < W.heap.size) W v r.kids := fun W hB => (hS.on ⟨hB.size, fun g hg _ => hB.block g hg⟩).lt
  have HP := hid (fun (W : World) (hb : Below w.heap.size w W) => gPrint_any (r := r) (hon W hb).low hF)
  have HPP := hid (fun (hc : chkN r = 0) (W : World) => gParse_print (w := W) hc)
  have HSZ := hid (fun (W : World) (hb : Below w.heap.size w W) => RSize_any (r := r) (hon W hb).low)
  have HSM := hid (fun (hc : chkN r = 0) (W : World) (hb : Below w.heap.size w W) (u : Value) (hu : RxF (fun g => g < W.heap.size) W u r.kids) => gSame_eq (r := r) hu (hon W hb) (chk_zero hc).2)
  obtain ⟨t, ht⟩ : ∃ t : List UInt8, t = s.data.toList.take 2000 := ⟨_, rfl⟩
  have htl : t.length ≤ 99000 := by rw [ht, List.length_take]; omega
  have HTX := hid (fun (W : World) => gParse_text (w := W) htl)
  have HTS := hid (show (¬ 2000 < s.size ∧ tx t = s) ∨ (2000 < s.size ∧ tx t = s.extract 0 2000) by
    by_cases h : 2000 < s.size
    · exact Or.inr ⟨h, by rw [ht, Lib.extract_eq]; rfl⟩
    · refine Or.inl ⟨h, ?_⟩
      rw [ht, List.take_of_length_le (by rw [list_size]; omega)])
  have HYP := hid (fun (y : Rx) (u : Value) (W : World) (hu : RxS W u y.kids) (hF : y.Fit) => gPrint_any (r := y) hu hF)
  have HYS := hid (fun (y : Rx) (u u' : Value) (W : World) (hu : RxS W u y.kids) (hu' : RxS W u' y.kids) (hn : y.nodes ≤ 1000) => RSame_any y hu hu' hn)
  obtain ⟨ao, cap, rfl, -⟩ := hS.at
  have HB0 := hid (boxed.start w r (.slice ao r.kids.length cap))
  obtain ⟨c, hc⟩ : ∃ c, c = chkN r := ⟨_, rfl⟩
  obtain ⟨pt, hpt⟩ : ∃ pt, pt = prS r := ⟨_, rfl⟩
  have hcb : c ≤ 1000 := by rw [hc]; unfold chkN; split <;> (try split) <;> (try split) <;> omega
  have hnn : (szN r).1 ≤ 100000 ∧ (c = 0 → (szN r).1 = r.nodes) := by
    refine ⟨by unfold szN; split <;> simp_all, fun h => ?_⟩
    rw [hc] at h
    have h1 := (chk_zero h).2
    have h2 := r.deep_le
    unfold szN
    rw [if_pos ⟨by omega, by omega⟩]
  obtain ⟨m, hm⟩ : ∃ m, m = (szN r).1 := ⟨_, rfl⟩
  obtain ⟨m2, hm2⟩ : ∃ m2, m2 = (szN r).2 := ⟨_, rfl⟩
  rw [← hm] at hnn
  rw [← hc] at HP HPP HSM
  rw [← hpt] at HP HPP
  rw [← hm, ← hm2] at HSZ
  clear hS hF hAw hon ht htl
  go_enter Tryz.func4, Tryz.ntmps4
  go_wp2_with fail
  refine (HP.out _ HB0.out.low).mono ?_
  rintro en w1 ⟨rfl, hb1⟩
  have B1 := hid (HB0.out.on hb1)
  obtain ⟨c0, c1, c2⟩ := B1.out.cells
  clear hb1
  clear hc hpt hm hm2
  go_upto_if 29 with fail
  go_cut [] (fun wx => Hid (Below w.heap.size w wx))
  case first =>
    by_cases h0 : c = 0
    · have HN := hid (hnn.2 h0)
      have HPX := hid (HPP.out h0)
      have HSX := hid (HSM.out h0)
      clear HPP HSM
      subst h0
      go_wp2_with fail
      refine (HPX.out _).mono ?_
      rintro en w2 ⟨hx, hb2⟩
      have B2 := hid (B1.out.on hb2)
      clear c0 c1 c2
      obtain ⟨c0, c1, c2⟩ := B2.out.cells
      have hl2 : w.heap.size < w2.heap.size := World.block_lt_of_cell? w2 _ c0
      clear hb2
      rcases hx with ⟨u, un, uc, rfl, hX⟩ | ⟨h50, x, y, rfl⟩
      · have X2 := hid (boxed.start w2 r (.slice u un uc))
        have B3 := hid (fun (ob : Obj) => (B2.out.on (((Below.refl _ _).alloc (Nat.le_refl _) ob))))
        have HXF := hid (fun (W : World) (hb : Below w2.heap.size w2 W) => (by
          have h1 := hX.out.seen
          exact (h1.on ⟨hb.size, fun g hg _ => hb.block g hg⟩).lt : RxF (fun g => g < W.heap.size) W (.slice u un uc) r.kids))
        clear hX
        go_wp2_with fail
        refine (HSZ.out _ (B3.out _).low).mono ?_
        rintro en w3 ⟨rfl, hb3⟩
        have B4 := hid ((B3.out _).on hb3)
        have X4 := hid (X2.out.on hb3)
        clear hb3 c0 c1 c2
        obtain ⟨c0, c1, c2⟩ := B4.out.cells
        obtain ⟨x0, x1, x2⟩ := X4.out.cells
        go_wp2_with fail
        refine (HSX.out _ B4.out.low _ (HXF.out _ X4.out.low)).mono ?_
        rintro en w4 ⟨rfl, hb4⟩
        have F4 := hid (B4.out.on hb4).low
        clear hb4 c0 c1 c2 x0 x1 x2
        go_wp2
        go_meet
        exact F4
      · have B3 := hid (fun (ob : Obj) => (B2.out.on (((Below.refl _ _).alloc (Nat.le_refl _) ob))))
        go_wp2_with fail
        refine (HSZ.out _ (B3.out _).low).mono ?_
        rintro en w3 ⟨rfl, hb3⟩
        have F4 := hid ((B3.out _).on hb3).low
        have h50I : (50 : Int) < (m : Int) := by rw [HN.out]; omega
        clear hb3 c0 c1 c2
        go_wp2
        go_meet
        exact F4
    · have h0I : ((c : Int) == 0) = false := by rw [beq_eq_false_iff_ne]; omega
      go_wp2
      go_meet
      exact hid B1.out.low
  case rest =>
    have BC := hcut
    clear hcut HP HPP HSZ HSM HB0 B1 c0 c1 c2 hnn hcb
    go_upto_if 65 with fail
    go_cut [1] (fun t' wx => t' = .string (tx t) ∧ Hid (Below w.heap.size w wx))
    case first =>
      rcases HTS.out with ⟨h1, h2⟩ | ⟨h1, h2⟩
      · have hI : decide ((2000 : Int) < (s.size : Int)) = false := decide_eq_false (by omega)
        have HE := hid h2
        clear h2
        go_wp2
        go_meet
        exact ⟨by rw [HE.out], BC⟩
      · have hI : (2000 : Int) < (s.size : Int) := by omega
        have hI2 : (2000 : Int) ≤ (s.size : Int) := by omega
        have HE := hid h2
        clear h2
        go_wp2
        go_meet
        exact ⟨by rw [HE.out], BC⟩
    case rest =>
      obtain ⟨rfl, B2⟩ := hcut
      clear BC HTS
      go_wp2_with fail
      refine (HTX.out _).mono ?_
      rintro en w3 ⟨hx, hb3⟩
      have B3 := hid (below_2x B2.out hb3)
      clear hb3
      rcases hx with ⟨y, u, un, uc, -, hcy, hfy, rfl, hX⟩ | ⟨c', x, y, -, hc', rfl⟩
      · have HS3 := hid hX.out.low
        clear hX
        have X3 := hid (boxed.start w3 y (.slice u un uc))
        have B4 := hid (fun (ob : Obj) => (show Below w.heap.size w (w3.alloc ob) from B3.out.alloc B3.out.size _))
        have HYP2 := hid (fun (W : World) (hb : Below w3.heap.size w3 W) => (by
          have h1 := HYP.out y (.slice u un uc) W (HS3.out.on hb) hfy
          rw [hcy] at h1
          exact h1 : Calls Tryz.prog 8 #[.agg #[.int .i64 y.op, .string (tx y.name), .slice u un uc]] W fun e w' => e = .returned (.tuple #[.string (tx (prS y)), .int .i64 (0 : Nat)]) ∧ Below W.heap.size W w'))
        have HPY := hid (fun (W : World) => gParse_print (w := W) hcy)
        have HYS2 := hid (fun (W : World) (hb : Below w3.heap.size w3 W) (u' : Value) (hu' : RxS W u' y.kids) => HYS.out y u' (.slice u un uc) W hu' (HS3.out.on hb) (chk_zero hcy).2)
        clear hcy hfy HYP HYS
        go_wp2_with fail
        refine (HYP2.out _ X3.out.low).mono ?_
        rintro en w4 ⟨rfl, hb4⟩
        have X4 := hid (X3.out.on hb4)
        have F4 := hid (below_2x (B4.out _) hb4)
        clear hb4
        go_wp2_with fail
        refine (HPY.out _).mono ?_
        rintro en w5 ⟨hz, hb5⟩
        have X5 := hid (X4.out.on hb5)
        have F5 := hid (below_2x F4.out hb5)
        clear hb5
        rcases hz with ⟨u', un', uc', rfl, hZ⟩ | ⟨-, x', y', rfl⟩
        · have Z5 := hid (boxed.start w5 y (.slice u' un' uc'))
          have HZ := hid hZ.out.low
          clear hZ
          have X6 := hid (fun (ob : Obj) => (X5.out.on (((Below.refl _ _).alloc (Nat.le_refl _) ob))))
          have F6 := hid (fun (ob : Obj) => (show Below w.heap.size w (w5.alloc ob) from F5.out.alloc F5.out.size _))
          obtain ⟨c0, c1, c2⟩ := X5.out.cells
          have hl5 : w3.heap.size < w5.heap.size := World.block_lt_of_cell? w5 _ c0
          go_wp2_with fail
          refine (HYS2.out _ (X6.out _).low _ (HZ.out.on Z5.out.low)).mono ?_
          rintro en w6 ⟨⟨q, rfl, hq⟩, hb6⟩
          have hqt : q = true := hq.2 rfl
          subst hqt
          have F7 := hid (below_2x (F6.out _) hb6)
          clear hb6 hq c0 c1 c2
          go_wp2_with fail
          refine (HAw.out _).mono ?_
          rintro en w8 ⟨rfl, hb8⟩
          have F8 := hid (below_2x F7.out hb8)
          clear hb8
          go_wp2
          go_ret
          exact ⟨rfl, F8.out⟩
        · have F6 := hid (fun (ob : Obj) => (show Below w.heap.size w (w5.alloc ob) from F5.out.alloc F5.out.size _))
          go_wp2_with fail
          refine (HAw.out _).mono ?_
          rintro en w8 ⟨rfl, hb8⟩
          have F8 := hid (below_2x (F6.out _) hb8)
          clear hb8
          go_wp2
          go_ret
          exact ⟨rfl, F8.out⟩
      · have hcI : ((c' : Int) == 0) = false := by rw [beq_eq_false_iff_ne]; omega
        have F6 := hid (fun (ob : Obj) => (show Below w.heap.size w (w3.alloc ob) from B3.out.alloc B3.out.size _))
        go_wp2_with fail
        refine (HAw.out _).mono ?_
        rintro en w8 ⟨rfl, hb8⟩
        have F8 := hid (below_2x (F6.out _) hb8)
        clear hb8
        go_wp2
        go_ret
        exact ⟨rfl, F8.out⟩
end Go.Proofs.YtagppgncanimaaaGreatDoor
namespace Go.Proofs.YtagppgncanimaaaGreatDoor
open Go.ChangeShapes Go.WideShapes Go.ChangeAt Go.RowKit
open Go.ChangeMaps (open_string shut_string)

theorem ZCBack.laidOut : laidOutB Tryz.prog = true := by kernel_rfl
theorem ZCBack.own : ownKnob Tryz.prog.godebug = none := by kernel_rfl

set_option maxRecDepth 100000 in
set_option maxHeartbeats 2000000 in
theorem ZCBack.lifted (os : Os) (started : os.Started) (H : Type) (enc : TypeId × Value → H) :
    ReturnsInHanded {} Tryz.checked os 4 .any (fun w args => (Rows.regexBackSpec.pre enc Tryz.prog Tryz.f4 [] false w args ∧ laidMetH Tryz.prog Rows.regexBackRow.laid w) ∧ sizedMet enc Tryz.prog Tryz.f4 (OpenSpec.ofChange Rows.regexBackSpec) false w args)
      (Rows.regexBackSpec.post enc Tryz.prog Tryz.f4 false true false false) := by
  refine returnsInHanded_of_change_and (C := Tryz.checked) (X := fun w _ => laidMetH Tryz.prog Rows.regexBackRow.laid w) (fun _ _ _ hh h => h.of_heap hh) ZCBack.own started (by kernel_rfl) Tryz.func4
    (ChangeSpec.witness_shaped (enc := enc) (C := Tryz.checked) (os := os) (X := fun w _ => laidMetH Tryz.prog Rows.regexBackRow.laid w) false (World.laidAll Tryz.prog os Rows.regexBackRow.laid) #[.agg #[.int .i64 0, .string ByteArray.empty, .slice none 0 0], .string ByteArray.empty] 8 (World.laidAll_os _ _ _)
      (World.shaped_of_ZipB (by kernel_rfl) (by kernel_rfl)) (by kernel_rfl) (by kernel_rfl) (by kernel_rfl)
      (by rw [MakeChecks.laidMetH_plain _ _ _ (by kernel_rfl)]; exact laidMet_laidAll _ (by kernel_rfl) (by kernel_rfl))) ?_
  intro W base args ds gs before hval0 hW _ _ _ _
  have hval : ∀ (j : Nat) t v, Tryz.f4.params[j]? = some t → args[j]? = some v → Value.okWide Tryz.prog W .any base t v := hval0
  have hW' := hW
  obtain ⟨p, q, hA0, hV, rfl, hFz, _⟩ := hW
  have hA : DataW.TrodAll enc Tryz.prog W 0 (fun _ => true) true Tryz.f4.params.toList args.toList ds p := hA0
  rw [Tryz.params4] at hA hval
  obtain ⟨v0, vs0, d0, ds0, p0, q0, hargs, rfl, rfl, h0, r0⟩ := trodAll_cons hA
  obtain ⟨v1, vs1, d1, ds1, p1, q1, rfl, rfl, rfl, h1, r1⟩ := trodAll_cons r0
  obtain ⟨rfl, rfl, rfl⟩ := trodAll_nil r1
  obtain rfl : args = #[v0, v1] := by cases args; simp_all
  obtain ⟨rfl, rfl⟩ := trodVars_none hV
  obtain ⟨fs, hfs, _⟩ := structOfX (P := Tryz.prog) (t := 25) (l := [(22, 0), (9, 1), (23, 2)]) (by kernel_rfl)
  obtain ⟨cs0, rfl, hcs0⟩ := okWide_struct hfs (hval 0 25 v0 rfl rfl)
  have k0 := h0
  have lt0 : ∀ x ∈ p0, x.block < W.heap.size := by obtain ⟨m, hm⟩ := k0; exact DataW.trod_lt m _ _ _ hm
  obtain ⟨r0x, u0, hr0, hS0, hF0⟩ : ∃ (r : Rx) (v : Value), cs0 = #[.int .i64 r.op, .string (tx r.name), v] ∧ RxF (fun g => g < W.heap.size) W v r.kids ∧ r.Fit := by
    obtain ⟨m, hm⟩ := h0
    obtain ⟨r, v, e1, e2, e3⟩ := open_seen m hm (fun b o hb => hFz b o (by simp [hb]))
    refine ⟨r, v, ?_, e2, e3⟩
    apply Array.toList_inj.1
    simpa [Value.cells] using e1
  subst hr0
  obtain ⟨s1, rfl, rfl, rfl, ws1⟩ := open_string Tryz.underlying9 (hval 1 9 v1 rfl rfl) h1
  simp only [List.append_nil] at hW'
  refine (back_any (s := s1) hS0 hF0 awake9).mono fun e W' ⟨he, hb⟩ => ?_
  subst he
  exact ⟨_, rfl, _, _, _, [], _, [], hW', trodAll_mk1 (shut_bool Tryz.underlying4 _), (trodAll_cons_mk (Below.trod ZCBack.laidOut (by kernel_rfl) (of_decide_eq_true (by kernel_rfl)) k0 hb lt0) (trodAll_cons_mk (shut_string Tryz.underlying9 ws1) trodAll_mk0)), rfl, hb.frame _, fun h => by cases h⟩

theorem ZCBack.holds : Rows.RegexBackSaid :=
  OpenClaim.holds_of_wide 4 Tryz.f4 rfl rfl rfl rfl rfl rfl rfl ⟨rfl, rfl, rfl, rfl, rfl⟩ rfl rfl rfl rfl rfl (by kernel_rfl) Tryz.func4 (by kernel_rfl)
    (of_decide_eq_true (by kernel_rfl)) (by unfold Func.isWrapper; first | (rw [if_pos (by decide +kernel)]; kernel_rfl) | (rw [if_neg (by decide +kernel)]; exact ⟨rfl, rfl⟩))
    (fun os started H enc _ => ZCBack.lifted os started H enc)

theorem RegexBack_holds : Rows.RegexBackCardSaid :=
  Claim7.holds_tied_plain_at .later [] [.data, .pinned] true (true, "a6601d23f094c93534be1edba3855d570ddf2a0c27ea29f2c4f01eecda35024c") false ZCBack.holds (fun _ h => by cases h) (by kernel_rfl) (fun _ h => by cases h) regexBack_row_tie rfl ⟨rfl, rfl⟩ (by kernel_rfl) rfl
    (fun f fn hf hfn => by
      obtain rfl : f = 4 := Option.some.inj ((show Tryz.prog.funcNamed "milestone/milestonelaw09.RegexBack" = some 4 by kernel_rfl).symm.trans hf) |>.symm
      obtain rfl : fn = Tryz.f4 := (Option.some.inj (Tryz.func4.symm.trans hfn)).symm
      exact ⟨by kernel_rfl, fun j t ht => by
        rw [Tryz.params4] at ht
        have hm : t ∈ [25, 9] := by simpa using Array.mem_of_getElem? ht
        have hall : ([25, 9].all fun u => !Tryz.prog.wantsStandIn u) = true := by kernel_rfl
        exact (show Tryz.prog.wantsStandIn t = false by simpa using List.all_eq_true.1 hall t hm)⟩)
    (by kernel_rfl)
#print axioms RegexBack_holds
end Go.Proofs.YtagppgncanimaaaGreatDoor
