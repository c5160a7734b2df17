/-
  The program's Match.
  The program's Print.
  The program's wordsOf.
  The program's alternativeWords.
  The program's sequenceWords and alternativeWords.
  The program's take.
-/
import Derived.Test.YtagppgncanimaaaGreatDoorZOfWAnd
import Derived.Test.YtagppgncanimaaaGreatDoorWFewAnd
namespace Go.Proofs.YtagppgncanimaaaGreatDoor
open Go.RowKit

/-- All lists are short. -/
def shortS (s : Sp) : Prop := ∀ (P : Sp → Prop), (∀ s, s.kids.length ≤ 1000000 → (∀ k ∈ s.kids, P k) → P s) → P s

set_option maxRecDepth 20000 in
set_option maxHeartbeats 2000000 in
theorem take_any {nm : List UInt8} {vc : Value} {cls : List (List UInt8)} (hvc : ∃ ao n c, vc = .slice ao n c) (hcl : cls.length ≤ maxLen) (s : Sp) (hs : shortS s) : TakeC nm vc cls s := by
  refine hs _ fun s hl ih => ?_
  clear hs
  intro B w g o cs v bs f hg hsc hk hgb hB hBg hW
  have HE := hid (fun (W : World) (hb : Below w.heap.size w W) (f' : Bool) => (by
    have hgl := (Array.getElem?_eq_some_iff.1 hg).1
    have hBw : B ≤ w.heap.size := by omega
    refine (each_any ih hl hvc B W g o cs v bs f' ((hb.block g hgl).trans hg) hsc (hk.on fun x hx => hb.block x (hk.lt x hx)) hgb hB hBg (fun W' h' => hW W' ((hb.mono hBw).trans h'))).mono ?_
    rintro e w' ⟨rfl, h⟩
    exact ⟨rfl, h⟩ : Calls Tryz.prog 65 #[.pointer (some ⟨g, o, none⟩), .agg #[.string (tx nm), vc], .bool f'] W fun e w' => e = .returned (.tuple #[]) ∧ TkP W w' g o cs (.mk s.op s.name (s.kids.map fun k => k.take (fitB nm cls) f') s.em ((s.kids.map fun k => k.take (fitB nm cls) f').any Sp.en)) v bs))
  have HR := hid (fun (W : World) (hb : Below w.heap.size w W) (f' : Bool) => (by
    have hgl := (Array.getElem?_eq_some_iff.1 hg).1
    have hBw : B ≤ w.heap.size := by omega
    refine (row_any ih hl hvc B W g o cs v bs f' ((hb.block g hgl).trans hg) hsc (hk.on fun x hx => hb.block x (hk.lt x hx)) hgb hB hBg (fun W' h' => hW W' ((hb.mono hBw).trans h'))).mono ?_
    rintro e w' ⟨rfl, h⟩
    exact ⟨rfl, h⟩ : Calls Tryz.prog 64 #[.pointer (some ⟨g, o, none⟩), .agg #[.string (tx nm), vc], .bool f'] W fun e w' => e = .returned (.tuple #[]) ∧ TkP W w' g o cs (.mk s.op s.name (doneS (Sp.take (fitB nm cls)) f' s.kids) s.em (endsR (doneS (Sp.take (fitB nm cls)) f' s.kids))) v bs))
  have hgl := (Array.getElem?_eq_some_iff.1 hg).1
  have HFT := hid (fun (W : World) (hb : Below w.heap.size w W) => fits_any (nm := nm) ((hb.block g hgl).trans hg) hsc (hW W (hb.mono (by omega))) hcl)
  have HTR := hid (fun (W w' : World) (hb : Below w.heap.size w W) (S : Sp) (h : TkP W w' g o cs S v bs) => (by
    have := hb.size
    exact ⟨by have := h.size; omega, h.os.trans hb.os, h.tape.trans hb.tape, h.output.trans hb.output, h.blk, h.kids, fun k hk h1 h2 => (h.rest k (by omega) h1 h2).trans (hb.block k hk)⟩ : TkP w w' g o cs S v bs))
  have HEQ := hid (s.take_eq (fitB nm cls) f)
  obtain ⟨a0, a1, a2, a3, a4⟩ := hsc
  have c0 : ∀ ob, (w.alloc ob).cell? ⟨g, o, none⟩ = some (.int .i64 s.op) := fun ob => by rw [cell_at (new_old _ ob hg)]; exact a0
  have c4 : ∀ ob, (w.alloc ob).cell? ⟨g, o + 4, none⟩ = some (.bool s.en) := fun ob => by rw [cell_at (new_old _ ob hg)]; exact a4
  have f4 : ∀ ob, (w.alloc ob).frozen? ⟨g, o + 4, none⟩ = false := fun ob => free_of (new_old _ ob hg)
  have c4w : w.cell? ⟨g, o + 4, none⟩ = some (.bool s.en) := by rw [cell_at hg]; exact a4
  have HG := hid hg
  have HK := hid hk
  have HGB := hid hgb
  have HB := hid (fun (ob : Obj) => ((Below.refl w.heap.size w).alloc (Nat.le_refl _) ob))
  obtain ⟨vo, vn, vcc, rfl⟩ := hvc
  obtain ⟨ao, cap, hv⟩ := hk.form
  subst hv
  obtain ⟨S, hS⟩ : ∃ S, S = s.take (fitB nm cls) f := ⟨_, rfl⟩
  rw [← hS] at HEQ ⊢
  clear hg a0 a1 a2 a3 a4 hk hgb hB hW ih hl hS
  by_cases o4 : s.op = 4
  · have HE4 := hid (show S = .mk s.op s.name (doneS (Sp.take (fitB nm cls)) f s.kids) s.em (endsR (doneS (Sp.take (fitB nm cls)) f s.kids)) by rw [HEQ.out, if_pos o4]; rfl)
    have HR2 := hid (fun (W : World) (hb : Below w.heap.size w W) => (by have := HR.out W hb f; rw [← HE4.out] at this; exact this))
    rw [o4] at c0
    clear HE HR HFT HEQ
    go_enter Tryz.func41, Tryz.ntmps41
    go_wp2_with fail
    refine (HR2.out _ (HB.out _)).mono ?_
    rintro en w1 ⟨rfl, ht⟩
    have HT := hid (HTR.out _ _ (HB.out _) _ ht)
    clear ht
    go_wp2
    exact bodyPost_end (v := .tuple #[]) (by simp [results, Tryz.results41, go_sem]) rfl ⟨rfl, HT.out⟩
  · by_cases ok : s.op = 5 ∨ s.op = 6 ∨ s.op = 7 ∨ s.op = 8
    · rcases ok with oN | oN | oN | oN
      · have HE4 := hid (show S = .mk s.op s.name (s.kids.map fun k => k.take (fitB nm cls) f) s.em ((s.kids.map fun k => k.take (fitB nm cls) f).any Sp.en) by
          rw [HEQ.out, if_neg o4, if_pos (by omega)]
          simp only [oN]
          simp [Function.comp_def])
        have HR2 := hid (fun (W : World) (hb : Below w.heap.size w W) => (by have := HE.out W hb (f); rw [← HE4.out] at this; exact this))
        rw [oN] at c0
        clear HE HR HFT HEQ HE4
        go_enter Tryz.func41, Tryz.ntmps41
        go_wp2_with fail
        refine (HR2.out _ (HB.out _)).mono ?_
        rintro en w1 ⟨rfl, ht⟩
        have HT := hid (HTR.out _ _ (HB.out _) _ ht)
        clear ht
        go_wp2
        exact bodyPost_end (v := .tuple #[]) (by simp [results, Tryz.results41, go_sem]) rfl ⟨rfl, HT.out⟩
      · have HE4 := hid (show S = .mk s.op s.name (s.kids.map fun k => k.take (fitB nm cls) (f || s.en)) s.em ((s.kids.map fun k => k.take (fitB nm cls) (f || s.en)).any Sp.en) by
          rw [HEQ.out, if_neg o4, if_pos (by omega)]
          simp only [oN]
          simp [Function.comp_def])
        have HR2 := hid (fun (W : World) (hb : Below w.heap.size w W) => (by have := HE.out W hb ((f || s.en)); rw [← HE4.out] at this; exact this))
        rw [oN] at c0
        clear HE HR HFT HEQ HE4
        obtain ⟨se, hse⟩ : ∃ se, se = s.en := ⟨_, rfl⟩
        rw [← hse] at c4 HR2
        clear hse
        cases f <;> cases se
        all_goals (
        go_enter Tryz.func41, Tryz.ntmps41
        go_wp2_with fail
        refine (HR2.out _ (HB.out _)).mono ?_
        rintro en w1 ⟨rfl, ht⟩
        have HT := hid (HTR.out _ _ (HB.out _) _ ht)
        clear ht
        go_wp2
        exact bodyPost_end (v := .tuple #[]) (by simp [results, Tryz.results41, go_sem]) rfl ⟨rfl, HT.out⟩)
      · have HE4 := hid (show S = .mk s.op s.name (s.kids.map fun k => k.take (fitB nm cls) (f || s.en)) s.em ((s.kids.map fun k => k.take (fitB nm cls) (f || s.en)).any Sp.en) by
          rw [HEQ.out, if_neg o4, if_pos (by omega)]
          simp only [oN]
          simp [Function.comp_def])
        have HR2 := hid (fun (W : World) (hb : Below w.heap.size w W) => (by have := HE.out W hb ((f || s.en)); rw [← HE4.out] at this; exact this))
        rw [oN] at c0
        clear HE HR HFT HEQ HE4
        obtain ⟨se, hse⟩ : ∃ se, se = s.en := ⟨_, rfl⟩
        rw [← hse] at c4 HR2
        clear hse
        cases f <;> cases se
        all_goals (
        go_enter Tryz.func41, Tryz.ntmps41
        go_wp2_with fail
        refine (HR2.out _ (HB.out _)).mono ?_
        rintro en w1 ⟨rfl, ht⟩
        have HT := hid (HTR.out _ _ (HB.out _) _ ht)
        clear ht
        go_wp2
        exact bodyPost_end (v := .tuple #[]) (by simp [results, Tryz.results41, go_sem]) rfl ⟨rfl, HT.out⟩)
      · have HE4 := hid (show S = .mk s.op s.name (s.kids.map fun k => k.take (fitB nm cls) f) s.em ((s.kids.map fun k => k.take (fitB nm cls) f).any Sp.en) by
          rw [HEQ.out, if_neg o4, if_pos (by omega)]
          simp only [oN]
          simp [Function.comp_def])
        have HR2 := hid (fun (W : World) (hb : Below w.heap.size w W) => (by have := HE.out W hb (f); rw [← HE4.out] at this; exact this))
        rw [oN] at c0
        clear HE HR HFT HEQ HE4
        go_enter Tryz.func41, Tryz.ntmps41
        go_wp2_with fail
        refine (HR2.out _ (HB.out _)).mono ?_
        rintro en w1 ⟨rfl, ht⟩
        have HT := hid (HTR.out _ _ (HB.out _) _ ht)
        clear ht
        go_wp2
        exact bodyPost_end (v := .tuple #[]) (by simp [results, Tryz.results41, go_sem]) rfl ⟨rfl, HT.out⟩
    · have HE4 := hid (show S = .mk s.op s.name s.kids s.em (f && fitB nm cls s.op s.name) by rw [HEQ.out, if_neg o4, if_neg ok])
      have p4 : (s.op == 4) = false := by simpa using o4
      have p5 : (s.op == 5) = false := by rw [beq_eq_false_iff_ne]; omega
      have p6 : (s.op == 6) = false := by rw [beq_eq_false_iff_ne]; omega
      have p7 : (s.op == 7) = false := by rw [beq_eq_false_iff_ne]; omega
      have p8 : (s.op == 8) = false := by rw [beq_eq_false_iff_ne]; omega
      obtain ⟨fb, hfb⟩ : ∃ fb, fb = fitB nm cls s.op s.name := ⟨_, rfl⟩
      rw [← hfb] at HFT HE4
      have HFIN := hid (fun (W : World) (hb : Below w.heap.size w W) (e : Bool) (he : S.en = e) => (by
        have hWg := (hb.block g hgl).trans HG.out
        have hsz := hb.size
        refine ⟨by simp; omega, hb.os, hb.tape, hb.output, ?_, ?_, fun k hk h1 h2 => ?_⟩
        · rw [heap_setCell_same W g (o + 4) _ _ (.bool e) hWg, he]
        · rw [HE4.out]
          exact HK.out.on fun x hx => (Below.heap_setCell _ _ _ _ (by show x ≠ g; intro e; rw [e] at hx; exact HGB.out hx)).trans (hb.block x (HK.out.lt x hx))
        · rw [Below.heap_setCell _ _ _ _ (by exact h1), hb.block k hk] : TkP w (W.setCell ⟨g, o + 4, none⟩ (.bool e)) g o cs S (.slice ao s.kids.length cap) bs))
      have HSE := hid (show S.en = (f && fb) by rw [HE4.out]; rfl)
      have HC4 := hid (fun (W : World) (hb : Below w.heap.size w W) => (by
        have hWg := (hb.block g hgl).trans HG.out
        exact ⟨(hb.cell (p := ⟨g, o + 4, none⟩) (by exact hgl)).trans c4w, free_of hWg⟩ : W.cell? ⟨g, o + 4, none⟩ = some (.bool s.en) ∧ W.frozen? ⟨g, o + 4, none⟩ = false))
      clear HE HR HEQ hfb ok o4 HE4 c4w
      have HFIN2 := hid (fun (ob : Obj) (e : Bool) (he : S.en = e) => (by
        have e1 : (w.setCell ⟨g, o + 4, none⟩ (.bool e)).heap.size = w.heap.size := by simp
        have h := HFIN.out w (Below.refl _ _) e he
        refine ⟨by simp, h.os, h.tape, h.output, ?_, ?_, fun k hk h1 h2 => ?_⟩
        · rw [Below.heap_alloc _ _ _ (by rw [e1]; exact hgl)]; exact h.blk
        · exact h.kids.on fun x hx => Below.heap_alloc _ _ _ (by rw [e1]; exact HK.out.lt x hx)
        · rw [Below.heap_alloc _ _ _ (by rw [e1]; exact hk)]; exact h.rest k hk h1 h2 : TkP w ((w.setCell ⟨g, o + 4, none⟩ (.bool e)).alloc ob) g o cs S (.slice ao s.kids.length cap) bs))
      cases f with
      | true =>
        go_enter Tryz.func41, Tryz.ntmps41
        go_wp2_with fail
        refine (HFT.out _ (HB.out _)).mono ?_
        rintro en w1 ⟨rfl, hb1⟩
        have hbw := below_2x (HB.out (.cells #[.string (tx nm), .slice vo vn vcc] 66)) hb1
        obtain ⟨y4, y5⟩ := HC4.out _ hbw
        have HT := hid (HFIN.out _ hbw fb (by rw [HSE.out]; rfl))
        clear hb1 hbw
        go_wp2
        exact bodyPost_end (v := .tuple #[]) (by simp [results, Tryz.results41, go_sem]) rfl ⟨rfl, HT.out⟩
      | false =>
        go_enter Tryz.func41, Tryz.ntmps41
        go_wp2
        first
          | exact bodyPost_end (v := .tuple #[]) (by simp [results, Tryz.results41, go_sem]) rfl ⟨rfl, HFIN2.out _ false (by rw [HSE.out]; rfl)⟩
          | exact bodyPost_end (v := .tuple #[]) (by simp [results, Tryz.results41, go_sem]) rfl ⟨rfl, HFIN.out _ (HB.out _) false (by rw [HSE.out]; rfl)⟩
end Go.Proofs.YtagppgncanimaaaGreatDoor
namespace Go.Proofs.YtagppgncanimaaaGreatDoor
open Go.RowKit

theorem WordsC.on {w W : World} {k : Rx} {v : Value} (h : WordsC w k v) (hb : Below w.heap.size w W) : WordsC W k v := fun W' hW' => h W' (below_2x hb hW')
theorem seqW_take_len {ks : List Rx} (a j : Nat) : (seqW a (ks.take j)).length ≤ 4 * nodesL ks :=
  Nat.le_trans (seqW_len fun k _ => k.wds_len) (Nat.mul_le_mul_left 4 (nodesL_take j))
theorem orW_take_len {ks : List Rx} (j : Nat) : (orW (ks.take j)).length ≤ 4 * nodesL ks :=
  Nat.le_trans (orW_len fun k _ => k.wds_len) (Nat.mul_le_mul_left 4 (nodesL_take j))

set_option maxRecDepth 20000 in
set_option maxHeartbeats 2000000 in
theorem sequenceWords_any {w : World} {v : Value} {ks : List Rx} (hS : RxS w v ks) (hn : nodesL ks ≤ 1000) (hA : ∀ k ∈ ks, Rx.all nodeB k = true) (hW : ∀ k ∈ ks, ∀ u, RxS w u k.kids → WordsC w k u) :
    Calls Tryz.prog 50 #[v] w fun en w' => WdsPost w (if ks.isEmpty then [[40], [41]] else seqW 1 ks) en w' := by
  obtain ⟨i0, hi, hz0, hz1, hz2⟩ := info_parts Tryz.infoStrX
  have HI := hid hi
  have HZ0 := hid hz0
  have HZ1 := hid hz1
  have HZ2 := hid hz2
  clear hi hz0 hz1 hz2
  obtain ⟨ao, cap, rfl, hat⟩ := hS.at
  by_cases h0 : ks = []
  · subst h0
    clear hS hat hW hA hn
    go_enter Tryz.func50, Tryz.ntmps50
    go_wp2
    go_ret
    exact ⟨_, rfl, ⟨rfl, Or.inr ⟨w.heap.size, 2, #[.string (tx [40]), .string (tx [41])], rfl, Nat.le_refl _, new_0 _ _, Nat.le_refl _, by decide, rfl, rfl⟩⟩, (Below.refl _ _).alloc (Nat.le_refl _) _⟩
  · have HE0 := hid (show (if ks.isEmpty then [[40], [41]] else seqW 1 ks) = seqW 1 ks by rw [if_neg (by simpa using h0)])
    have hlk := length_le ks
    obtain ⟨n, hnn⟩ : ∃ n, n = ks.length := ⟨_, rfl⟩
    have HN := hid hnn
    have hnb : n ≤ 1000 := by omega
    have hnz : ((n : Int) == 0) = false := by
      have : 0 < ks.length := List.length_pos_iff.2 h0
      rw [beq_eq_false_iff_ne]; omega
    rw [← hnn, HE0.out]
    obtain ⟨g, o, rfl, hg, hcell⟩ : ∃ g o, ao = some ⟨g, o, none⟩ ∧ g < w.heap.size ∧ ∀ (i : Nat) (k : Rx), ks[i]? = some k → ∃ u un uc, w.cell? ⟨g, o + i * 3, none⟩ = some (.int .i64 k.op) ∧ w.cell? ⟨g, o + i * 3 + 1, none⟩ = some (.string (tx k.name)) ∧ w.cell? ⟨g, o + i * 3 + 2, none⟩ = some (.slice u un uc) ∧ un = k.kids.length ∧ RxS w (.slice u un uc) k.kids := by
      rcases hat with e | h
      · exact absurd e h0
      · exact h
    have HCE := hid hcell
    have HWC := hid hW
    have HAL := hid hA
    have HNL := hid hn
    clear hS hat hW hA hnn hcell hlk h0 HE0 hn
    go_enter Tryz.func50, Tryz.ntmps50
    go_wp2_with fail
    go_loopw [3, 12] (fun u i wr => ∃ j : Nat, j ≤ n ∧ i = .int .i64 j ∧ Hid (wr.ownsRow w.heap.size 9 1 u (seqW 1 (ks.take j)).length (svs (seqW 1 (ks.take j)))) ∧ Hid (Below w.heap.size w wr)) (fun _ i _ => n - (intOf i).toNat)
    case atStart => exact ⟨0, Nat.zero_le _, rfl, World.ownsRow_nil _ _ _ _, Below.refl _ _⟩
    case round =>
      obtain ⟨j, hj, rfl, HO, HB⟩ := hrel
      obtain ⟨X, hX⟩ : ∃ X, X = seqW 1 (ks.take j) := ⟨_, rfl⟩
      have hXl := seqW_take_len (ks := ks) 1 j
      rw [← hX] at HO hXl
      have HX := hid hX
      obtain ⟨m, hm⟩ : ∃ m, m = X.length := ⟨_, rfl⟩
      rw [← hm] at HO hXl
      have HM := hid hm
      have hmb : m ≤ 4000 := by have := HNL.out; omega
      obtain ⟨bo, vc, rfl⟩ := own_form HO.out
      clear hX hm hXl
      by_cases hlt : j < n
      · obtain ⟨k, hk⟩ : ∃ k, ks[j]? = some k := ⟨ks[j]'(by rw [← HN.out]; exact hlt), List.getElem?_eq_getElem _⟩
        obtain ⟨u, un, uc, a0, a1, a2, -, hr⟩ := HCE.out j k hk
        have k0 := (HB.out.cell (p := ⟨g, o + j * 3, none⟩) (by exact hg)).trans a0
        have k1 := (HB.out.cell (p := ⟨g, o + j * 3 + 1, none⟩) (by exact hg)).trans a1
        have k2 := (HB.out.cell (p := ⟨g, o + j * 3 + 2, none⟩) (by exact hg)).trans a2
        have hmem := List.mem_of_getElem? hk
        have hkw := k.wds_len
        have hkn := nodesL_mem hmem
        have hkp := k.wds_pos (HAL.out k hmem)
        have hkb := HNL.out
        have HTK := hid (show seqW 1 (ks.take (j + 1)) = X ++ kwd 1 (tg k) k.wds by rw [take_snocR hk, seqW_snoc, HX.out])
        have hkl := kwd_len 1 (tg k) k.wds
        have HC := hid (fun (ob : Obj) => kidWords_any (w := wr.alloc ob) (k := k) (least := 1) (hr.on (HB.out.alloc HB.out.size ob)) hkp (by omega) ((HWC.out k hmem _ hr).on (HB.out.alloc HB.out.size ob)) (by omega))
        obtain ⟨Y, hY⟩ : ∃ Y, Y = kwd 1 (tg k) k.wds := ⟨_, rfl⟩
        rw [← hY] at HC HTK hkl
        obtain ⟨p, hp⟩ : ∃ p, p = Y.length := ⟨_, rfl⟩
        have HP := hid hp
        rw [← hp] at hkl
        have hpb : 1 ≤ p ∧ p ≤ 4000 := by omega
        have hkI : (j : Int) < (n : Int) := by omega
        have hk0 : (0 : Int) ≤ (j : Int) := by omega
        rw [show ((1 : Nat) : Int) = 1 from rfl] at HC
        clear hk a0 a1 a2 hr hmem hkw hkn hkp hkb hkl hY hp
        go_wp2_with fail
        refine (HC.out _).mono ?_
        rintro en w2 ⟨u2, rfl, hown2, hb2⟩
        rw [← HP.out] at hown2
        obtain ⟨g2, cap2, rfl, hg2, hg2l, hc2⟩ := own_someX hown2 (by omega)
        have hl2 := hown2.1
        have B2 := hid (show Below w.heap.size w w2 from (HB.out.alloc HB.out.size _).trans (hb2.mono (HB.out.alloc HB.out.size _).size))
        have O2 := hid (own_keepX (HO.out.alloc _) hb2)
        have hsz2 := B2.out.size
        have N2 := hid hc2
        clear hown2 hb2 hc2 hg2
        go_wp2_with (first | (at_builtin; refine wpList_append_own_at _ rfl _ _ 47 rfl w.heap.size 9 i0 (.string ByteArray.empty) 1 16 Tryz.underlying47 HI.out HZ0.out HZ1.out HZ2.out rfl (by decide) (.slice bo m vc) m (svs X) rfl O2.out ⟨g2, 0, none⟩ p cap2 (svs Y) rfl hl2 N2.out svs_oneX ?c3 ?c4 ?c5 ?_))
        case c3 => unfold maxLen; omega
        case c4 => omega
        case c5 => exact hsz2
        intro v3 w3 hown3 hgrow3 _ _
        obtain ⟨a3, c3, rfl⟩ := own_form hown3
        have B3 := hid (show Below w.heap.size w w3 from B2.out.grown hgrow3 B2.out.size (fun q hq => (O2.out.lt q hq).1))
        have O3 := hid (show w3.ownsRow w.heap.size 9 1 (.slice a3 (m + p) c3) (seqW 1 (ks.take (j + 1))).length (svs (seqW 1 (ks.take (j + 1)))) from by
          rw [HTK.out, svs_appX, List.length_append, ← HM.out, ← HP.out]
          exact hown3)
        clear hown3 hgrow3
        go_wp2
        go_roundw
        case rel => exact ⟨j + 1, by omega, by go_num, O3, B3⟩
        case measure => simp [intOf]; omega
      · have hkI : ¬ ((j : Int) < (n : Int)) := by omega
        have HE := hid (show seqW 1 ks = X by rw [HX.out, List.take_of_length_le (by have := HN.out; omega)])
        go_wp2
        go_ret
        exact ⟨_, rfl, by rw [HE.out, ← HM.out]; exact HO.out, HB.out⟩
end Go.Proofs.YtagppgncanimaaaGreatDoor
namespace Go.Proofs.YtagppgncanimaaaGreatDoor
open Go.RowKit

theorem kwd_zero (t : Nat) (l : List (List UInt8)) : kwd 0 t l = l := by unfold kwd; rw [if_pos (Nat.zero_le _)]

set_option maxRecDepth 20000 in
set_option maxHeartbeats 2000000 in
theorem alternativeWords_any {w : World} {v : Value} {ks : List Rx} (hS : RxS w v ks) (h0 : ks ≠ []) (hn : nodesL ks ≤ 1000) (hA : ∀ k ∈ ks, Rx.all nodeB k = true) (hW : ∀ k ∈ ks, ∀ u, RxS w u k.kids → WordsC w k u) :
    Calls Tryz.prog 51 #[v] w fun en w' => WdsPost w (orW ks) en w' := by
  obtain ⟨i0, hi, hz0, hz1, hz2⟩ := info_parts Tryz.infoStrX
  have HI := hid hi
  have HZ0 := hid hz0
  have HZ1 := hid hz1
  have HZ2 := hid hz2
  clear hi hz0 hz1 hz2
  obtain ⟨ao, cap, rfl, hat⟩ := hS.at
  have hlk := length_le ks
  obtain ⟨n, hnn⟩ : ∃ n, n = ks.length := ⟨_, rfl⟩
  have HN := hid hnn
  have hnb : n ≤ 1000 := by omega
  rw [← hnn]
  obtain ⟨g, o, rfl, hg, hcell⟩ : ∃ g o, ao = some ⟨g, o, none⟩ ∧ g < w.heap.size ∧ ∀ (i : Nat) (k : Rx), ks[i]? = some k → ∃ u un uc, w.cell? ⟨g, o + i * 3, none⟩ = some (.int .i64 k.op) ∧ w.cell? ⟨g, o + i * 3 + 1, none⟩ = some (.string (tx k.name)) ∧ w.cell? ⟨g, o + i * 3 + 2, none⟩ = some (.slice u un uc) ∧ un = k.kids.length ∧ RxS w (.slice u un uc) k.kids := by
    rcases hat with e | h
    · exact absurd e h0
    · exact h
  have HCE := hid hcell
  have HWC := hid hW
  have HAL := hid hA
  have HNL := hid hn
  clear hS hat hW hA hnn hcell hlk h0 hn
  go_enter Tryz.func51, Tryz.ntmps51
  go_wp2_with fail
  go_loopw [3, 8, 4] (fun u i _ wr => ∃ j : Nat, j ≤ n ∧ i = .int .i64 j ∧ Hid (wr.ownsRow w.heap.size 9 1 u (orW (ks.take j)).length (svs (orW (ks.take j)))) ∧ Hid (Below w.heap.size w wr)) (fun _ i _ _ => n - (intOf i).toNat)
  case atStart => exact ⟨0, Nat.zero_le _, rfl, World.ownsRow_nil _ _ _ _, Below.refl _ _⟩
  case round =>
    obtain ⟨j, hj, rfl, HO, HB⟩ := hrel
    obtain ⟨X, hX⟩ : ∃ X, X = orW (ks.take j) := ⟨_, rfl⟩
    have hXl := orW_take_len (ks := ks) j
    rw [← hX] at HO hXl
    have HX := hid hX
    obtain ⟨m, hm⟩ : ∃ m, m = X.length := ⟨_, rfl⟩
    rw [← hm] at HO hXl
    have HM := hid hm
    have hmb : m ≤ 4000 := by have := HNL.out; omega
    obtain ⟨bo, vc, rfl⟩ := own_form HO.out
    clear hX hm hXl
    by_cases hlt : j < n
    · obtain ⟨k, hk⟩ : ∃ k, ks[j]? = some k := ⟨ks[j]'(by rw [← HN.out]; exact hlt), List.getElem?_eq_getElem _⟩
      obtain ⟨u, un, uc, a0, a1, a2, -, hr⟩ := HCE.out j k hk
      have k0 := (HB.out.cell (p := ⟨g, o + j * 3, none⟩) (by exact hg)).trans a0
      have k1 := (HB.out.cell (p := ⟨g, o + j * 3 + 1, none⟩) (by exact hg)).trans a1
      have k2 := (HB.out.cell (p := ⟨g, o + j * 3 + 2, none⟩) (by exact hg)).trans a2
      have hmem := List.mem_of_getElem? hk
      have hkw := k.wds_len
      have hkn := nodesL_mem hmem
      have hkp := k.wds_pos (HAL.out k hmem)
      have hkb := HNL.out
      have HC := hid (fun (wa : World) (hb : Below w.heap.size w wa) => kidWords_any (w := wa) (k := k) (least := 0) (hr.on hb) hkp (by omega) ((HWC.out k hmem _ hr).on hb) (by omega))
      rw [kwd_zero] at HC
      obtain ⟨Y, hY⟩ : ∃ Y, Y = k.wds := ⟨_, rfl⟩
      have HTK := hid (show orW (ks.take (j + 1)) = if j = 0 then Y else X ++ [[124]] ++ Y by
        rw [take_snocR hk, hY]
        split
        · rename_i hj0; subst hj0; exact orW_one k
        · rename_i hj0
          have hlen : (ks.take j).length = j := by rw [List.length_take]; have := HN.out; omega
          rw [orW_snoc _ _ (fun e => by rw [e] at hlen; simp at hlen; omega), HX.out])
      rw [← hY] at HC hkw hkp
      obtain ⟨p, hp⟩ : ∃ p, p = Y.length := ⟨_, rfl⟩
      have HP := hid hp
      rw [← hp] at hkw hkp
      have hpb : 1 ≤ p ∧ p ≤ 4000 := by omega
      have hkI : (j : Int) < (n : Int) := by omega
      have hk0 : (0 : Int) ≤ (j : Int) := by omega
      rw [show ((0 : Nat) : Int) = 0 from rfl] at HC
      have HX0 := hid (show j = 0 → X = [] by intro e; rw [HX.out, e]; rfl)
      clear hk a0 a1 a2 hr hmem hkw hkn hkp hkb hY hp
      by_cases hj0 : j = 0
      · have hXe := HX0.out hj0
        subst hXe
        have hm0 : m = 0 := HM.out
        subst hm0
        have hjN : ¬ (0 < j) := by omega
        have HTE := hid (show orW (ks.take (j + 1)) = [] ++ Y by rw [HTK.out, if_pos hj0]; rfl)
        clear hj0
        go_wp2_with fail
        refine (HC.out _ (HB.out.alloc HB.out.size _)).mono ?_
        rintro en w2 ⟨u2, rfl, hown2, hb2⟩
        rw [← HP.out] at hown2
        obtain ⟨g2, cap2, rfl, hg2, hg2l, hc2⟩ := own_someX hown2 (by omega)
        have hl2 := hown2.1
        have B2 := hid (show Below w.heap.size w w2 from (HB.out.alloc HB.out.size _).trans (hb2.mono (HB.out.alloc HB.out.size _).size))
        have O2 := hid (own_keepX (HO.out.alloc _) hb2)
        have hsz2 := B2.out.size
        have N2 := hid hc2
        clear hown2 hb2 hc2 hg2
        go_wp2_with (first | (at_builtin; refine wpList_append_own_at _ rfl _ _ 47 rfl w.heap.size 9 i0 (.string ByteArray.empty) 1 16 Tryz.underlying47 HI.out HZ0.out HZ1.out HZ2.out rfl (by decide) (.slice bo 0 vc) 0 (svs []) rfl O2.out ⟨g2, 0, none⟩ p cap2 (svs Y) rfl hl2 N2.out svs_oneX ?c3 ?c4 ?c5 ?_))
        case c3 => unfold maxLen; omega
        case c4 => omega
        case c5 => exact hsz2
        intro v3 w3 hown3 hgrow3 _ _
        obtain ⟨a3, c3, rfl⟩ := own_form hown3
        have B3 := hid (show Below w.heap.size w w3 from B2.out.grown hgrow3 B2.out.size (fun q hq => (O2.out.lt q hq).1))
        have O3 := hid (show w3.ownsRow w.heap.size 9 1 (.slice a3 p c3) (orW (ks.take (j + 1))).length (svs (orW (ks.take (j + 1)))) from by
          rw [HTE.out, svs_appX, List.length_append, ← HP.out, List.length_nil, Nat.zero_add]
          exact hown3)
        clear hown3 hgrow3
        go_wp2
        go_roundw
        case rel => exact ⟨j + 1, by omega, by go_num, O3, B3⟩
        case measure => simp [intOf]; omega
      · have hjN : 0 < j := by omega
        have HTE := hid (show orW (ks.take (j + 1)) = X ++ [[124]] ++ Y by rw [HTK.out, if_neg hj0])
        have hszr := HB.out.size
        go_wp2_with (first | (at_builtin; refine wpList_append_own_at _ rfl _ _ 47 rfl w.heap.size 9 i0 (.string ByteArray.empty) 1 16 Tryz.underlying47 HI.out HZ0.out HZ1.out HZ2.out rfl (by decide) (.slice bo m vc) m (svs X) rfl ((HO.out.alloc _).alloc _) ⟨wr.heap.size + 1, 0, none⟩ 1 1 [.string (tx [124])] rfl rfl (new_cells (wr.alloc _) #[.string (tx [124])] _ _ (World.size_alloc _ _).symm) ?d2 ?d3 ?d4 ?d5 ?_))
        case d2 => simp [Value.oneCell']
        case d3 => unfold maxLen; omega
        case d4 => omega
        case d5 => simp only [World.size_alloc]; omega
        intro v1 w1 hown1 hgrow1 _ _
        obtain ⟨a1, c1, rfl⟩ := own_form hown1
        have B1 := hid (show Below w.heap.size w w1 from ((HB.out.alloc HB.out.size _).alloc (by simp only [World.size_alloc]; omega) _).grown hgrow1 (by simp only [World.size_alloc]; omega) (fun q hq => (HO.out.lt q hq).1))
        have O1 := hid hown1
        have HNE := hid (show some wr.heap.size ≠ (Value.slice bo m vc).ownBlock from fun e => absurd (HO.out.lt _ e.symm).2 (Nat.lt_irrefl _))
        have HBX := hid (fun ob => boxed.cells ((boxed.start wr k (.slice u un uc)).alloc (by simp) ob))
        obtain ⟨b0, b1, b2⟩ := HBX.out (.cells #[.string (tx [124])] 9)
        have d0 := hgrow1.cell b0 HNE.out
        have d1 := hgrow1.cell b1 HNE.out
        have d2 := hgrow1.cell b2 HNE.out
        clear hown1 hgrow1 b0 b1 b2
        go_wp2_with fail
        refine (HC.out _ B1.out).mono ?_
        rintro en w2 ⟨u2, rfl, hown2, hb2⟩
        rw [← HP.out] at hown2
        obtain ⟨g2, cap2, rfl, hg2, hg2l, hc2⟩ := own_someX hown2 (by omega)
        have hl2 := hown2.1
        have B2 := hid (show Below w.heap.size w w2 from B1.out.trans (hb2.mono B1.out.size))
        have O2 := hid (own_keepX O1.out hb2)
        have hsz2 := B2.out.size
        have N2 := hid hc2
        clear hown2 hb2 hc2 hg2 d0 d1 d2
        go_wp2_with (first | (at_builtin; refine wpList_append_own_at _ rfl _ _ 47 rfl w.heap.size 9 i0 (.string ByteArray.empty) 1 16 Tryz.underlying47 HI.out HZ0.out HZ1.out HZ2.out rfl (by decide) (.slice a1 (m + 1) c1) (m + 1) (svs X ++ [.string (tx [124])]) rfl O2.out ⟨g2, 0, none⟩ p cap2 (svs Y) rfl hl2 N2.out svs_oneX ?c3 ?c4 ?c5 ?_))
        case c3 => unfold maxLen; omega
        case c4 => omega
        case c5 => exact hsz2
        intro v3 w3 hown3 hgrow3 _ _
        obtain ⟨a3, c3, rfl⟩ := own_form hown3
        have B3 := hid (show Below w.heap.size w w3 from B2.out.grown hgrow3 B2.out.size (fun q hq => (O2.out.lt q hq).1))
        have O3 := hid (show w3.ownsRow w.heap.size 9 1 (.slice a3 (m + 1 + p) c3) (orW (ks.take (j + 1))).length (svs (orW (ks.take (j + 1)))) from by
          rw [HTE.out, svs_appX, svs_appX, List.length_append, List.length_append, ← HP.out, ← HM.out, List.append_assoc]
          exact hown3)
        clear hown3 hgrow3
        go_wp2
        go_roundw
        case rel => exact ⟨j + 1, by omega, by go_num, O3, B3⟩
        case measure => simp [intOf]; omega
    · have hkI : ¬ ((j : Int) < (n : Int)) := by omega
      have HE := hid (show orW ks = X by rw [HX.out, List.take_of_length_le (by have := HN.out; omega)])
      go_wp2
      go_ret
      exact ⟨_, rfl, by rw [HE.out, ← HM.out]; exact HO.out, HB.out⟩
end Go.Proofs.YtagppgncanimaaaGreatDoor
namespace Go.Proofs.YtagppgncanimaaaGreatDoor
open Go.RowKit

theorem WdsPost.low {w w1 : World} {l : List (List UInt8)} {en : Ending} {w' : World} (hb : Below w.heap.size w w1) (h : WdsPost w1 l en w') : WdsPost w l en w' := by
  obtain ⟨u, e, ho, hw⟩ := h
  exact ⟨u, e, ho.mono hb.size, hb.trans (hw.mono hb.size)⟩

set_option maxRecDepth 20000 in
set_option maxHeartbeats 2000000 in
theorem wordsOf_any (r : Rx) : ∀ {w : World} {v : Value}, RxS w v r.kids → Rx.all nodeB r = true → r.nodes ≤ 1000 → WordsC w r v := by
  induction r using Rx.ind with
  | h r ih =>
    intro w v hS hA hn W hb
    have hSW := hS.on hb
    obtain ⟨hN, hK⟩ := (Rx.all_iff _ _).1 hA
    have hnk := r.nodes_kids
    have HI := hid (fun (w1 : World) (k : Rx) (hk : k ∈ r.kids) (u : Value) (hu : RxS w1 u k.kids) => ih k hk hu (hK k hk) (by have := nodesL_mem hk; omega))
    have HS := hid hSW
    obtain ⟨ao, cap, rfl, hat⟩ := hSW.at
    clear hS hb hSW hA ih w
    have HB0 := hid (boxed.start W r (.slice ao r.kids.length cap))
    by_cases o1 : r.op = 1
    · have HE := hid (show r.wds = [r.name] by rw [r.wds_eq, if_pos o1])
      rw [HE.out, o1]
      clear hN hK hnk hat HS HI HB0
      go_enter Tryz.func28, Tryz.ntmps28
      go_wp2
      go_ret
      exact ⟨_, rfl, ⟨rfl, Or.inr ⟨W.heap.size + 1, 1, #[.string (tx r.name)], rfl, Nat.le_succ _, by rw [show W.heap.size + 1 = (W.alloc (rxo 1 r.name (.slice ao r.kids.length cap))).heap.size by simp]; exact new_0 _ _, Nat.le_refl _, by decide, rfl, rfl⟩⟩, ((Below.refl _ _).alloc (Nat.le_refl _) _).alloc (by simp) _⟩
    by_cases o2 : r.op = 2
    · have HE := hid (show r.wds = [[36], r.name] by rw [r.wds_eq, if_neg o1, if_pos o2])
      rw [HE.out, o2]
      clear hN hK hnk hat HS HI HB0 o1
      go_enter Tryz.func28, Tryz.ntmps28
      go_wp2
      go_ret
      exact ⟨_, rfl, ⟨rfl, Or.inr ⟨W.heap.size + 1, 2, #[.string (tx [36]), .string (tx r.name)], rfl, Nat.le_succ _, by rw [show W.heap.size + 1 = (W.alloc (rxo 2 r.name (.slice ao r.kids.length cap))).heap.size by simp]; exact new_0 _ _, Nat.le_refl _, by decide, rfl, rfl⟩⟩, ((Below.refl _ _).alloc (Nat.le_refl _) _).alloc (by simp) _⟩
    by_cases o3 : r.op = 3
    · have HE := hid (show r.wds = [[46]] by rw [r.wds_eq, if_neg o1, if_neg o2, if_pos o3])
      rw [HE.out, o3]
      clear hN hK hnk hat HS HI HB0 o1 o2
      go_enter Tryz.func28, Tryz.ntmps28
      go_wp2
      go_ret
      exact ⟨_, rfl, ⟨rfl, Or.inr ⟨W.heap.size + 1, 1, #[.string (tx [46])], rfl, Nat.le_succ _, by rw [show W.heap.size + 1 = (W.alloc (rxo 3 r.name (.slice ao r.kids.length cap))).heap.size by simp]; exact new_0 _ _, Nat.le_refl _, by decide, rfl, rfl⟩⟩, ((Below.refl _ _).alloc (Nat.le_refl _) _).alloc (by simp) _⟩
    by_cases o4 : r.op = 4
    · have HE := hid (show r.wds = if r.kids.isEmpty then [[40], [41]] else seqW 1 r.kids by rw [r.wds_eq]; simp only [o4]; rfl)
      have HC := hid (fun (w1 : World) (hb1 : Below W.heap.size W w1) => sequenceWords_any (HS.out.on hb1) (by omega) hK (fun k hk u hu => HI.out w1 k hk u hu))
      obtain ⟨L, hL⟩ : ∃ L, L = if r.kids.isEmpty then [[40], [41]] else seqW 1 r.kids := ⟨_, rfl⟩
      rw [HE.out, o4, ← hL]
      rw [← hL] at HC
      rw [o4] at HB0
      clear HE hL
      clear hN hK hnk hat HS HI o1 o2 o3
      go_enter Tryz.func28, Tryz.ntmps28
      go_wp2_with fail
      refine (HC.out _ HB0.out.low).mono ?_
      intro en w1 hp1
      have HP := hid (hp1.low HB0.out.low)
      obtain ⟨u1, rfl, -⟩ := hp1
      go_wp2
      go_ret
      exact HP.out
    by_cases o5 : r.op = 5
    · have HE := hid (show r.wds = orW r.kids by rw [r.wds_eq]; simp only [o5]; rfl)
      have h0 : r.kids ≠ [] := by
        have h2 : 2 ≤ r.kids.length := by
          unfold nodeB at hN
          simp_all
        intro e
        rw [e] at h2
        simp at h2
      have HC := hid (fun (w1 : World) (hb1 : Below W.heap.size W w1) => alternativeWords_any (HS.out.on hb1) h0 (by omega) hK (fun k hk u hu => HI.out w1 k hk u hu))
      rw [HE.out, o5]
      rw [o5] at HB0
      clear hN hK hnk hat HS HI o1 o2 o3 o4 h0
      go_enter Tryz.func28, Tryz.ntmps28
      go_wp2_with fail
      refine (HC.out _ HB0.out.low).mono ?_
      intro en w1 hp1
      have HP := hid (hp1.low HB0.out.low)
      obtain ⟨u1, rfl, -⟩ := hp1
      go_wp2
      go_ret
      exact HP.out
    have h1 : r.kids.length = 1 := by
      unfold nodeB at hN
      simp_all
    obtain ⟨k, hk⟩ : ∃ k, r.kids = [k] := List.length_eq_one_iff.1 h1
    have HE := hid (show r.wds = kwd 2 (tg k) k.wds ++ [sgn1 r.op] by rw [r.wds_eq, if_neg o1, if_neg o2, if_neg o3, if_neg o4, if_neg o5, hk]; simp)
    obtain ⟨i0, hi, hz0, hz1, hz2⟩ := info_parts Tryz.infoStrX
    have HI0 := hid hi
    have HZ0 := hid hz0
    have HZ1 := hid hz1
    have HZ2 := hid hz2
    clear hi hz0 hz1 hz2
    obtain ⟨g, o, rfl, hg, hcell⟩ : ∃ g o, ao = some ⟨g, o, none⟩ ∧ g < W.heap.size ∧ ∀ (i : Nat) (k : Rx), r.kids[i]? = some k → ∃ u un uc, W.cell? ⟨g, o + i * 3, none⟩ = some (.int .i64 k.op) ∧ W.cell? ⟨g, o + i * 3 + 1, none⟩ = some (.string (tx k.name)) ∧ W.cell? ⟨g, o + i * 3 + 2, none⟩ = some (.slice u un uc) ∧ un = k.kids.length ∧ RxS W (.slice u un uc) k.kids := by
      rcases hat with e | h
      · rw [hk] at e; cases e
      · exact h
    obtain ⟨u, un, uc, k0, k1, k2, -, hr⟩ := hcell 0 k (by rw [hk]; rfl)
    rw [show o + 0 * 3 = o by omega] at k0 k1 k2
    have hmem : k ∈ r.kids := by rw [hk]; simp
    have hkw := k.wds_len
    have hkn := nodesL_mem hmem
    have hkp := k.wds_pos (hK k hmem)
    have hkl := kwd_len 2 (tg k) k.wds
    have HC := hid (fun (w1 : World) (hb1 : Below W.heap.size W w1) => kidWords_any (w := w1) (k := k) (least := 2) (hr.on hb1) hkp (by omega) (HI.out w1 k hmem _ (hr.on hb1)) (by omega))
    obtain ⟨Y, hY⟩ : ∃ Y, Y = kwd 2 (tg k) k.wds := ⟨_, rfl⟩
    rw [← hY] at HC HE hkl
    obtain ⟨p, hp⟩ : ∃ p, p = Y.length := ⟨_, rfl⟩
    have HP := hid hp
    rw [← hp] at hkl
    have hpb : 1 ≤ p ∧ p ≤ 4000 := by omega
    rw [show ((2 : Nat) : Int) = 2 from rfl] at HC
    obtain ⟨op, hop⟩ : ∃ op, op = r.op := ⟨_, rfl⟩
    obtain ⟨nm, hnm⟩ : ∃ nm, nm = r.name := ⟨_, rfl⟩
    rw [HE.out, h1, ← hop, ← hnm]
    rw [h1, ← hop, ← hnm] at HB0
    rw [← hop] at o1 o2 o3 o4 o5
    have HSG := hid (fun (w1 : World) => (show Calls Tryz.prog 53 #[.int .i64 op] w1 fun e w' => e = .returned (.string (tx (sgn1 op))) ∧ w1 = w' from (signOf_any (w := w1) (op := op)).mono fun _ _ h => ⟨h.1, h.2.symm⟩))
    obtain ⟨sg, hsg⟩ : ∃ sg, sg = sgn1 op := ⟨_, rfl⟩
    rw [← hsg] at HSG ⊢
    clear hN hK hnk hcell hr hmem hkw hkn hkp hkl hY hp hat HI HE hop hnm hsg HS hk h1
    go_enter Tryz.func28, Tryz.ntmps28
    have SH := hid (fun (w1 : World) (h : Below (W.heap.size + 1) (W.alloc (rxo op nm (.slice (some ⟨g, o, none⟩) 1 cap))) w1) => (by
      have e0 := boxed.cells (r := .mk op nm []) h
      have e1 := boxed.low (r := .mk op nm []) h
      exact ⟨⟨e0.1, e0.2.2, (e1.cell (p := ⟨g, o, none⟩) hg).trans k0, (e1.cell (p := ⟨g, o + 1, none⟩) hg).trans k1, (e1.cell (p := ⟨g, o + 2, none⟩) hg).trans k2⟩, e1⟩ : (w1.cell? ⟨W.heap.size, 0, none⟩ = some (.int .i64 op) ∧ w1.cell? ⟨W.heap.size, 2, none⟩ = some (.slice (some ⟨g, o, none⟩) 1 cap) ∧ w1.cell? ⟨g, o, none⟩ = some (.int .i64 k.op) ∧ w1.cell? ⟨g, o + 1, none⟩ = some (.string (tx k.name)) ∧ w1.cell? ⟨g, o + 2, none⟩ = some (.slice u un uc)) ∧ Below W.heap.size W w1))
    have B0 := hid (show Below (W.heap.size + 1) (W.alloc (rxo op nm (.slice (some ⟨g, o, none⟩) 1 cap))) (W.alloc (rxo op nm (.slice (some ⟨g, o, none⟩) 1 cap))).drew from (Below.refl _ _).drew)
    have HKW := hid (show Calls Tryz.prog 52 #[.agg #[.int .i64 k.op, .string (tx k.name), .slice u un uc], .int .i64 2] (W.alloc (rxo op nm (.slice (some ⟨g, o, none⟩) 1 cap))).drew fun en w1 => ∃ g1 cap1, en = .returned (.slice (some ⟨g1, 0, none⟩) p cap1) ∧ g1 ≠ W.heap.size ∧ (w1.cell? ⟨W.heap.size, 0, none⟩ = some (.int .i64 op) ∧ w1.cell? ⟨W.heap.size, 2, none⟩ = some (.slice (some ⟨g, o, none⟩) 1 cap) ∧ w1.cell? ⟨g, o, none⟩ = some (.int .i64 k.op) ∧ w1.cell? ⟨g, o + 1, none⟩ = some (.string (tx k.name)) ∧ w1.cell? ⟨g, o + 2, none⟩ = some (.slice u un uc)) ∧ Hid (Below (W.heap.size + 1) (W.alloc (rxo op nm (.slice (some ⟨g, o, none⟩) 1 cap))) w1) ∧ Hid (w1.ownsRow (W.heap.size + 1) 9 1 (.slice (some ⟨g1, 0, none⟩) p cap1) p (svs Y)) from by
      refine (HC.out _ (SH.out _ B0.out).2).mono ?_
      rintro en w1 ⟨u1, rfl, hown1, hb1⟩
      rw [← HP.out] at hown1
      obtain ⟨g1, cap1, rfl, hg1, hg1l, hc1⟩ := own_someX hown1 (by omega)
      have hs : (W.alloc (rxo op nm (.slice (some ⟨g, o, none⟩) 1 cap))).drew.heap.size = W.heap.size + 1 := World.size_alloc _ _
      rw [hs] at hown1 hg1 hb1
      have hB := B0.out.trans hb1
      exact ⟨g1, cap1, rfl, by omega, (SH.out _ hB).1, hB, hown1⟩)
    clear HB0 HC
    go_wp2_with fail
    go_region_held3 (fun w' => w'.cell? ⟨W.heap.size, 0, none⟩ = some (.int .i64 op) ∧ w'.cell? ⟨W.heap.size, 2, none⟩ = some (.slice (some ⟨g, o, none⟩) 1 cap) ∧ w'.cell? ⟨g, o, none⟩ = some (.int .i64 k.op) ∧ w'.cell? ⟨g, o + 1, none⟩ = some (.string (tx k.name)) ∧ w'.cell? ⟨g, o + 2, none⟩ = some (.slice u un uc)) (first | (go_keep; done) | exact S3 | exact S1 | exact S2) (first | (refine step_append_lies _ (by rfl) (.tmp 32) (.tmp 36) 47 (by rfl) (W.heap.size + 1) 9 i0 (.string ByteArray.empty) 1 16 Tryz.underlying47 HI0.out HZ0.out HZ1.out HZ2.out rfl (by decide) (.slice (some ⟨g1, 0, none⟩) p cap1) p (svs Y) (by rfl) (by exact O1.out.alloc _) ⟨w1.heap.size, 0, none⟩ 1 1 [.string (tx sg)] (by rfl) (by rfl) (by exact new_cells w1 #[.string (tx sg)] _ _ rfl) (by simp [Value.oneCell']) (by omega) (by unfold maxLen; omega) (by omega) (by have := B1.out.size; simp only [World.size_alloc] at this ⊢; omega) _ (by rfl) ?_; intro g3 cap3 w3 hown3 hgrow3 hat3 hlt3; have B3 := hid (show Below (W.heap.size + 1) (W.alloc (rxo op nm (.slice (some ⟨g, o, none⟩) 1 cap))) w3 from (B1.out.alloc (by have := B1.out.size; simpa using this) _).grown hgrow3 (by have := B1.out.size; simp only [World.size_alloc] at this ⊢; omega) (fun q hq => (O1.out.lt q hq).1)); have S3 := (SH.out _ B3.out).1) | (go_at_call 52; refine HKW.out.mono ?_; rintro en w1 ⟨g1, cap1, rfl, hgW, S1, B1, O1⟩) | (go_at_call 53; refine (HSG.out _).mono ?_; rintro en w2 ⟨rfl, rfl⟩; have S2 := S1))
    have O3 := hid (show w3.ownsRow W.heap.size 9 1 (.slice (some ⟨g3, 0, none⟩) (p + 1) cap3) (Y ++ [sg]).length (svs (Y ++ [sg])) from by
      rw [svs_appX, List.length_append, ← HP.out]
      exact hown3.mono (Nat.le_succ _))
    have B4 := hid (SH.out _ B3.out).2
    clear hown3 hgrow3 hat3 S1 S2 S3
    go_wp2
    go_ret
    exact ⟨_, rfl, O3.out, B4.out⟩
end Go.Proofs.YtagppgncanimaaaGreatDoor
namespace Go.Proofs.YtagppgncanimaaaGreatDoor
open Go.RowKit

theorem isW_ltrsX {l : List UInt8} (h0 : l ≠ []) (h : (l.all fun c => Wo.ltr c.toNat) = true) : Wo.isW l = true := by
  have hl := (Wo.lets_all l).2 h
  cases l with
  | nil => exact absurd rfl h0
  | cons x t =>
    have hx : Wo.ltr x.toNat = true := by rw [List.all_cons, Bool.and_eq_true] at h; exact h.1
    have ha : Wo.arr (x :: t) = false := by
      rw [Wo.lets_cons] at hl
      cases hq : Wo.arr (x :: t) with
      | false => rfl
      | true => rw [hq] at hl; simp at hl
    refine decide_eq_true ⟨h0, ?_⟩
    rw [Wo.fst_of_ltr hx ha]; exact hl
theorem isW_nameX {l : List UInt8} (h : Wo.nameB l = true) : Wo.isW l = true := by
  obtain ⟨h0, _, _, _, ha⟩ := of_decide_eq_true h
  exact isW_ltrsX h0 ha
/-- Words that can be told. -/
def okW (l : List UInt8) : Prop := Wo.isW l = true ∧ l.length ≤ 64
theorem okW_name {l : List UInt8} (h : Wo.nameB l = true) : okW l := ⟨isW_nameX h, (of_decide_eq_true h).2.1⟩
theorem okW_sgn {op : Int} (h : op = 6 ∨ op = 7 ∨ op = 8) : okW (sgn1 op) := by
  rcases h with rfl | rfl | rfl <;> exact ⟨by kernel_rfl, by decide⟩
theorem okW_kwd {a t : Nat} {l : List (List UInt8)} (h : ∀ x ∈ l, okW x) : ∀ x ∈ kwd a t l, okW x := by
  intro x hx
  unfold kwd at hx
  split at hx
  · exact h x hx
  · rcases List.mem_cons.1 hx with rfl | hx
    · exact ⟨by kernel_rfl, by decide⟩
    · rcases List.mem_append.1 hx with hx | hx
      · exact h x hx
      · rw [List.mem_singleton.1 hx]; exact ⟨by kernel_rfl, by decide⟩
theorem okW_flat {ks : List Rx} {f : Rx → List (List UInt8)} (h : ∀ k ∈ ks, ∀ x ∈ f k, okW x) : ∀ x ∈ (ks.map f).flatten, okW x := by
  intro x hx
  obtain ⟨l, hl, hxl⟩ := List.mem_flatten.1 hx
  obtain ⟨k, hk, rfl⟩ := List.mem_map.1 hl
  exact h k hk x hxl
theorem Rx.wds_ok (r : Rx) (h : Rx.all nodeB r = true) : ∀ x ∈ r.wds, okW x := by
  induction r using Rx.ind with
  | h r ih =>
    obtain ⟨hn, hk⟩ := (Rx.all_iff _ _).1 h
    have hkk := fun k hk' => ih k hk' (hk k hk')
    rw [r.wds_eq]
    unfold nodeB at hn
    split
    · rename_i o1
      intro x hx
      rw [List.mem_singleton.1 hx]
      simp [o1] at hn
      exact okW_name hn.1
    · split
      · rename_i o1 o2
        intro x hx
        simp [o2] at hn
        rcases List.mem_cons.1 hx with rfl | hx
        · exact ⟨by kernel_rfl, by decide⟩
        · rw [List.mem_singleton.1 hx]; exact okW_name hn.1
      · split
        · intro x hx
          rw [List.mem_singleton.1 hx]; exact ⟨by kernel_rfl, by decide⟩
        · split
          · split
            · intro x hx
              rcases List.mem_cons.1 hx with rfl | hx
              · exact ⟨by kernel_rfl, by decide⟩
              · rw [List.mem_singleton.1 hx]; exact ⟨by kernel_rfl, by decide⟩
            · exact okW_flat fun k hk' => okW_kwd (hkk k hk')
          · split
            · cases hks : r.kids with
              | nil => intro x hx; cases hx
              | cons a t =>
                rw [hks] at hkk
                intro x hx
                rcases List.mem_append.1 hx with hx | hx
                · exact hkk a (by simp) x hx
                · rw [List.map_map] at hx
                  refine okW_flat (ks := t) (fun k hk' y hy => ?_) x hx
                  rcases List.mem_cons.1 hy with rfl | hy
                  · exact ⟨by kernel_rfl, by decide⟩
                  · exact hkk k (List.mem_cons_of_mem _ hk') y hy
            · rename_i o1 o2 o3 o4 o5
              intro x hx
              rcases List.mem_append.1 hx with hx | hx
              · exact okW_flat (fun k hk' => okW_kwd (hkk k hk')) x hx
              · rw [List.mem_singleton.1 hx]
                refine okW_sgn ?_
                simp [o1, o2, o3, o4, o5] at hn
                exact hn.1
theorem wds_sayE {r : Rx} (h : Rx.all nodeB r = true) : sayE r.wds = 0 := by
  unfold sayE
  rw [if_pos]
  unfold allW
  exact List.all_eq_true.2 fun x hx => (r.wds_ok h x hx).1
/-- The text of an expression. -/
def prS (r : Rx) : List UInt8 := if chkN r = 0 then sayS r.wds else []
theorem chk_zero {r : Rx} (h : chkN r = 0) : Rx.all nodeB r = true ∧ r.nodes ≤ 1000 := by
  unfold chkN at h
  split at h
  · cases h
  · split at h
    · cases h
    · split at h
      · rename_i h1 _ h2; exact ⟨h2, by omega⟩
      · cases h

set_option maxRecDepth 4000 in
set_option maxHeartbeats 2000000 in
theorem gPrint_any {w : World} {v : Value} {r : Rx} (hS : RxS w v r.kids) (hF : r.Fit) : Calls Tryz.prog 8 #[.agg #[.int .i64 r.op, .string (tx r.name), v]] w fun e w' => e = .returned (.tuple #[.string (tx (prS r)), .int .i64 (chkN r)]) ∧ Below w.heap.size w w' := by
  have HCK := hid (fun (W : World) (hb : Below w.heap.size w W) => gCheck_any (r := r) (hS.on hb) hF)
  have HWO := hid (fun (h1 : Rx.all nodeB r = true) (h2 : r.nodes ≤ 1000) (W : World) (hb : Below w.heap.size w W) => wordsOf_any r (hS.on hb) h1 h2 W (Below.refl _ _))
  obtain ⟨ao, cap, rfl, -⟩ := hS.at
  have HB0 := hid (boxed.start w r (.slice ao r.kids.length cap))
  clear hS hF
  by_cases hc : chkN r = 0
  · obtain ⟨h1, h2⟩ := chk_zero hc
    have HW2 := hid (HWO.out h1 h2)
    have hwl := r.wds_len
    have HSY := hid (fun (W : World) (u : Value) (ht : Txs W u r.wds) => Say_anyX u r.wds W ht (by omega) (fun l hl => Nat.le_trans (r.wds_ok h1 l hl).2 (by omega)))
    rw [wds_sayE h1] at HSY
    have HE := hid (show prS r = sayS r.wds by unfold prS; rw [if_pos hc])
    rw [HE.out, hc]
    rw [hc] at HCK
    clear hwl h1 h2 HWO HE
    go_enter Tryz.func8, Tryz.ntmps8
    go_wp2_with fail
    refine (HCK.out _ ((Below.refl _ _).alloc (Nat.le_refl _) _)).mono ?_
    rintro en w1 ⟨rfl, hb1⟩
    have B1 := hid (HB0.out.on hb1)
    obtain ⟨c0, c1, c2⟩ := B1.out.cells
    clear hb1
    go_wp2_with fail
    refine (HW2.out _ B1.out.low).mono ?_
    rintro en w2 ⟨u2, rfl, hown2, hb2⟩
    have B2 := hid (B1.out.on hb2)
    have HT := hid (own_txs hown2)
    clear hown2 hb2
    go_wp2_with fail
    refine (HSY.out _ _ HT.out).mono ?_
    rintro en w3 ⟨rfl, hb3⟩
    have B3 := hid (B2.out.on hb3)
    clear hb3 c0 c1 c2
    go_wp2
    refine bodyPost_ret (v := .tuple #[.string (tx (sayS r.wds)), .int .i64 0]) (by simp [results, Tryz.results8, go_sem]) rfl ⟨rfl, B3.out.low⟩
  · have HE := hid (show prS r = [] by unfold prS; rw [if_neg hc])
    rw [HE.out]
    obtain ⟨c, hcc⟩ : ∃ c, c = chkN r := ⟨_, rfl⟩
    rw [← hcc] at HCK ⊢
    have hcI : ((c : Int) == 0) = false := by rw [beq_eq_false_iff_ne]; omega
    clear HE HWO hc hcc
    go_enter Tryz.func8, Tryz.ntmps8
    go_wp2_with fail
    refine (HCK.out _ ((Below.refl _ _).alloc (Nat.le_refl _) _)).mono ?_
    rintro en w1 ⟨rfl, hb1⟩
    have B1 := hid (HB0.out.on hb1)
    clear hb1
    go_wp2
    refine bodyPost_ret (v := .tuple #[.string (tx []), .int .i64 c]) (by simp [results, Tryz.results8, go_sem]) rfl ⟨rfl, B1.out.low⟩
end Go.Proofs.YtagppgncanimaaaGreatDoor
namespace Go.Proofs.YtagppgncanimaaaGreatDoor
open Go.RowKit

theorem shortS.mk {s : Sp} (hl : s.kids.length ≤ 1000000) (hk : ∀ k ∈ s.kids, shortS k) : shortS s := fun P h => h s hl fun k hkm => hk k hkm P h
theorem shortS.of (r : Rx) : r.nodes ≤ 1000000 → shortS (Sp.of r) := by
  induction r using Rx.ind with
  | h r ih =>
    intro hn
    have h1 := r.nodes_kids
    have h2 := length_le r.kids
    rw [Sp.of_eq]
    refine shortS.mk (by show (r.kids.map Sp.of).length ≤ _; rw [List.length_map]; omega) fun k hk => ?_
    obtain ⟨x, hx, rfl⟩ := List.mem_map.1 (show k ∈ r.kids.map Sp.of from hk)
    exact ih x hx (by have := nodesL_mem hx; omega)
theorem doneS_mem (F : Sp → Bool → Sp) (ks : List Sp) : ∀ f, ∀ x ∈ doneS F f ks, ∃ k ∈ ks, ∃ b, x = F k b := by
  induction ks with
  | nil => intro f x hx; simp [doneS] at hx
  | cons a t ih =>
    intro f x hx
    rcases List.mem_cons.1 (show x ∈ F a f :: doneS F (a.en || f && a.em) t from hx) with rfl | hx
    · exact ⟨a, by simp, f, rfl⟩
    · obtain ⟨k, hk, b, rfl⟩ := ih _ x hx
      exact ⟨k, List.mem_cons_of_mem _ hk, b, rfl⟩
theorem shortS.take {s : Sp} (fit : Int → List UInt8 → Bool) (h : shortS s) : ∀ f, shortS (s.take fit f) := by
  have := h (fun s => shortS s ∧ ∀ f, shortS (s.take fit f)) fun s hl ih => ?_
  · exact this.2
  · refine ⟨shortS.mk hl fun k hk => (ih k hk).1, fun f => ?_⟩
    rw [s.take_eq]
    split
    · refine shortS.mk ?_ fun k hk => ?_
      · show (doneS (Sp.take fit) f s.kids).length ≤ _
        rw [doneS_len]; exact hl
      · obtain ⟨x, hx, b, rfl⟩ := doneS_mem (Sp.take fit) s.kids f k hk
        exact (ih x hx).2 b
    · split
      · refine shortS.mk ?_ fun k hk => ?_
        · show ((s.kids.map _).map _).length ≤ _
          rw [List.length_map, List.length_map]; exact hl
        · obtain ⟨t, ht, rfl⟩ := List.mem_map.1 (show k ∈ (s.kids.map (Sp.take fit)).map _ from hk)
          obtain ⟨x, hx, rfl⟩ := List.mem_map.1 ht
          exact (ih x hx).2 _
      · exact shortS.mk hl fun k hk => (ih k hk).1
/-- A path: names and classes. -/
abbrev Whos := List (List UInt8 × List (List UInt8))
/-- The spot behind a path. -/
def runS (s : Sp) : Whos → Sp
  | [] => s
  | (nm, cls) :: t => t.foldl (fun s p => s.take (fitB p.1 p.2) false) (s.take (fitB nm cls) true)
theorem runS_snoc (s : Sp) (ps : Whos) (p : List UInt8 × List (List UInt8)) : runS s (ps ++ [p]) = (runS s ps).take (fitB p.1 p.2) (ps.isEmpty) := by
  cases ps with
  | nil => rfl
  | cons a t => simp [runS]
theorem runS_short {s : Sp} (h : shortS s) (ps : Whos) : shortS (runS s ps) := by
  cases ps with
  | nil => exact h
  | cons a t =>
    show shortS (t.foldl _ _)
    generalize hx : s.take (fitB a.1 a.2) true = x
    have : shortS x := by rw [← hx]; exact h.take _ _
    clear hx h
    induction t generalizing x with
    | nil => exact this
    | cons b t ih => exact ih _ (this.take _ _)
theorem foldS_op (s : Sp) (t : Whos) : ∀ x : Sp, (x.op = s.op ∧ x.name = s.name ∧ x.em = s.em) → ((t.foldl (fun (s : Sp) p => s.take (fitB p.1 p.2) false) x).op = s.op ∧ (t.foldl (fun (s : Sp) p => s.take (fitB p.1 p.2) false) x).name = s.name ∧ (t.foldl (fun (s : Sp) p => s.take (fitB p.1 p.2) false) x).em = s.em) := by
  induction t with
  | nil => exact fun x h => h
  | cons b t ih =>
    intro x h0
    refine ih _ ?_
    obtain ⟨a1, a2, a3⟩ := x.take_op (fitB b.1 b.2) false
    exact ⟨a1.trans h0.1, a2.trans h0.2.1, a3.trans h0.2.2⟩
theorem runS_op (s : Sp) (ps : Whos) : (runS s ps).op = s.op ∧ (runS s ps).name = s.name ∧ (runS s ps).em = s.em := by
  cases ps with
  | nil => exact ⟨rfl, rfl, rfl⟩
  | cons a t => exact foldS_op s t _ (s.take_op (fitB a.1 a.2) true)
/-- A path in memory. -/
def PathAt (w : World) (v : Value) (ps : Whos) : Prop := ∃ ao cap, v = .slice ao ps.length cap ∧ (ps = [] ∨ ∃ g o, ao = some ⟨g, o, none⟩ ∧ g < w.heap.size ∧ ∀ (i : Nat) (p : List UInt8 × List (List UInt8)), ps[i]? = some p → p.2.length ≤ maxLen ∧ ∃ vo vn vc, w.cell? ⟨g, o + i * 2, none⟩ = some (.string (tx p.1)) ∧ w.cell? ⟨g, o + i * 2 + 1, none⟩ = some (.slice vo vn vc) ∧ Txs w (.slice vo vn vc) p.2)
/-- Is a path one of an expression? -/
def matchB (r : Rx) (ps : Whos) : Bool := if ps = [] then (Sp.of r).em else (runS (Sp.of r) ps).en

/-- While a path is followed. -/
structure MtI (w1 wr : World) (sb : Nat) (s : Sp) (v : Value) (bs : List Nat) : Prop where
  box : ∃ cs, wr.heap[sb]? = some (.cells cs 76 (0, 0)) ∧ SpC cs 0 s v
  kids : SpS wr v s.kids bs
  free : sb ∉ bs
  low : ∀ x ∈ bs, w1.heap.size ≤ x
  below : Below w1.heap.size w1 wr

set_option maxRecDepth 20000 in
set_option maxHeartbeats 4000000 in
theorem gMatch_ok {w : World} {v vp : Value} {r : Rx} {ps : Whos} (hS : RxS w v r.kids) (hF : r.Fit) (hc : chkN r = 0) (hP : PathAt w vp ps) (hn : ps.length ≤ 1000000) (hne : ps ≠ []) :
    Calls Tryz.prog 19 #[.agg #[.int .i64 r.op, .string (tx r.name), v], vp] w fun e w' => e = .returned (.tuple #[.bool (matchB r ps), .int .i64 0]) ∧ Below w.heap.size w w' := by
  have hn1 := (chk_zero hc).2
  have HCK := hid (fun (W : World) (hb : Below w.heap.size w W) => (by
    have := gCheck_any (r := r) (hS.on hb) hF
    rw [hc] at this
    exact this : Calls Tryz.prog 12 #[.agg #[.int .i64 r.op, .string (tx r.name), v]] W fun e w' => e = .returned (.int .i64 ((0 : Nat) : Int)) ∧ Below W.heap.size W w'))
  have HSO := hid (fun (W : World) (hb : Below w.heap.size w W) => spotOf_any r (hS.on hb) (by omega) W (Below.refl _ _))
  have HSH := hid (shortS.of r (by omega))
  obtain ⟨ao, cap, rfl, -⟩ := hS.at
  obtain ⟨po, pcap, rfl, hpat⟩ := hP
  have HMB := hid (show matchB r ps = (runS (Sp.of r) ps).en by unfold matchB; rw [if_neg hne])
  rw [HMB.out]
  obtain ⟨n, hnn⟩ : ∃ n, n = ps.length := ⟨_, rfl⟩
  have HN := hid hnn
  have hnz : ((n : Int) == 0) = false := by
    have := List.length_pos_iff.2 hne
    rw [beq_eq_false_iff_ne]; omega
  rw [← hnn] at hn ⊢
  have HPA := hid hpat
  have HB0 := hid (boxed.start w r (.slice ao r.kids.length cap))
  obtain ⟨kn, hkn⟩ : ∃ kn, kn = r.kids.length := ⟨_, rfl⟩
  rw [← hkn] at HCK HSO HB0 ⊢
  obtain ⟨rb, hrb⟩ : ∃ rb, rb = (runS (Sp.of r) ps).en := ⟨_, rfl⟩
  have HRB := hid hrb
  rw [← hrb]
  clear hS hF hc hpat hnn hn1 hkn hne HMB hrb
  go_enter Tryz.func19, Tryz.ntmps19
  go_wp2_with fail
  refine (HCK.out _ HB0.out.low).mono ?_
  rintro en w1 ⟨rfl, hb1⟩
  have B1 := hid (HB0.out.on hb1)
  obtain ⟨c0, c1, c2⟩ := B1.out.cells
  clear hb1
  go_wp2_with fail
  refine (HSO.out _ B1.out.low).mono ?_
  rintro en w2 ⟨u, sn, sc, bs, rfl, X2, Y2, BJ⟩
  go_wp2_with fail
  have hsz2 := BJ.out.size
  have HI0 := hid (show MtI w1 (w2.alloc (.cells #[.int .i64 r.op, .string (tx r.name), .slice u sn sc, .bool (Sp.of r).em, .bool false] 76)) w2.heap.size (runS (Sp.of r) (ps.take 0)) (.slice u sn sc) bs from by
    refine ⟨⟨_, new_0 _ _, ?_⟩, X2.out.on fun x hx => Below.heap_alloc _ _ _ (X2.out.lt x hx), fun hm => by have := X2.out.lt _ hm; omega, Y2.out, BJ.out.alloc hsz2 _⟩
    show SpC _ 0 (Sp.of r) _
    rw [Sp.of_eq]
    exact ⟨rfl, rfl, rfl, rfl, rfl⟩)
  clear X2 Y2 BJ c0 c1 c2
  go_loopw [24] (fun i wr => ∃ j : Nat, j ≤ n ∧ i = .int .i64 j ∧ Hid (MtI w1 wr w2.heap.size (runS (Sp.of r) (ps.take j)) (.slice u sn sc) bs)) (fun i _ => n - (intOf i).toNat)
  case atStart => exact ⟨0, Nat.zero_le _, rfl, HI0⟩
  case round =>
    obtain ⟨j, hj, rfl, HJ⟩ := hrel
    obtain ⟨cs, hbx, hsp⟩ := HJ.out.box
    obtain ⟨S, hS⟩ : ∃ S, S = runS (Sp.of r) (ps.take j) := ⟨_, rfl⟩
    have HS := hid hS
    rw [← hS] at HJ hsp
    clear hS
    by_cases hlt : j < n
    · obtain ⟨p, hp⟩ : ∃ p, ps[j]? = some p := ⟨ps[j]'(by rw [← HN.out]; exact hlt), List.getElem?_eq_getElem _⟩
      obtain ⟨g, o, rfl, hg, hcell⟩ : ∃ g o, po = some ⟨g, o, none⟩ ∧ g < w.heap.size ∧ ∀ (i : Nat) (p : List UInt8 × List (List UInt8)), ps[i]? = some p → p.2.length ≤ maxLen ∧ ∃ vo vn vc, w.cell? ⟨g, o + i * 2, none⟩ = some (.string (tx p.1)) ∧ w.cell? ⟨g, o + i * 2 + 1, none⟩ = some (.slice vo vn vc) ∧ Txs w (.slice vo vn vc) p.2 := by
        rcases HPA.out with e | h
        · rw [e] at hp; simp at hp
        · exact h
      obtain ⟨hml, vo, vn, vc, a0, a1, htx⟩ := hcell j p hp
      have hw1 := B1.out.low.size
      have hbw : Below w.heap.size w wr := B1.out.low.trans (HJ.out.below.mono hw1)
      have k0 := (hbw.cell (p := ⟨g, o + j * 2, none⟩) (by exact hg)).trans a0
      have k1 := (hbw.cell (p := ⟨g, o + j * 2 + 1, none⟩) (by exact hg)).trans a1
      have htk := take_any (nm := p.1) (cls := p.2) (vc := .slice vo vn vc) ⟨_, _, _, rfl⟩ hml S (by rw [HS.out]; exact runS_short HSH.out _)
      have hJ := HJ.out
      have HTC := hid (fun (ob : Obj) (f : Bool) => (by
        have hbl := (Array.getElem?_eq_some_iff.1 hbx).1
        have hsw := hJ.below.size
        refine (htk w1.heap.size (wr.alloc ob) w2.heap.size 0 cs (.slice u sn sc) bs f (new_old _ ob hbx) hsp (hJ.kids.on fun x hx => Below.heap_alloc _ _ _ (hJ.kids.lt x hx)) hJ.free hJ.low hsz2 (fun W' hb' => ?_)).mono ?_
        · exact htx.below (B1.out.low.trans ((hJ.below.trans (((Below.refl w1.heap.size wr).alloc hsw ob).trans hb')).mono hw1))
        · rintro e w' ⟨rfl, ht⟩
          refine ⟨rfl, ⟨_, ht.blk, ?_⟩, ht.kids, hJ.free, hJ.low, hJ.below.trans (((Below.refl w1.heap.size wr).alloc hsw ob).trans (ht.below hsz2 hJ.low (by simp only [World.size_alloc]; omega)))⟩
          obtain ⟨o1, o2, o3⟩ := S.take_op (fitB p.1 p.2) f
          exact hsp.set o1 o2 o3 : Calls Tryz.prog 41 #[.pointer (some ⟨w2.heap.size, 0, none⟩), .agg #[.string (tx p.1), .slice vo vn vc], .bool f] (wr.alloc ob) fun e w' => e = .returned (.tuple #[]) ∧ MtI w1 w' w2.heap.size (S.take (fitB p.1 p.2) f) (.slice u sn sc) bs))
      have HNX := hid (show runS (Sp.of r) (ps.take (j + 1)) = S.take (fitB p.1 p.2) (decide (j = 0)) by
        rw [List.take_add_one, hp, Option.toList_some, runS_snoc, HS.out]
        congr 1
        cases j with
        | zero => rfl
        | succ j =>
          cases ps with
          | nil => simp at hp
          | cons a t => simp)
      have hkI : (j : Int) < (n : Int) := by omega
      have hk0 : (0 : Int) ≤ (j : Int) := by omega
      have hjz : ((j : Int) == 0) = decide (j = 0) := by rw [Bool.eq_iff_iff]; simp
      obtain ⟨fz, hfz⟩ : ∃ fz, fz = decide (j = 0) := ⟨_, rfl⟩
      rw [← hfz] at HNX hjz
      have HT1 := hid (fun ob => HTC.out ob fz)
      clear hp a0 a1 htx hml hcell hbw htk hJ hbx hsp hfz HTC
      go_wp2_with fail
      refine (HT1.out _).mono ?_
      rintro en w3 ⟨rfl, hm⟩
      have HM := hid (show MtI w1 w3 w2.heap.size (runS (Sp.of r) (ps.take (j + 1))) (.slice u sn sc) bs by rw [HNX.out]; exact hm)
      clear hm
      go_wp2
      go_roundw
      case rel => exact ⟨j + 1, by omega, by go_num, HM⟩
      case measure => simp [intOf]; omega
    · have hkI : ¬ ((j : Int) < (n : Int)) := by omega
      have HE := hid (show S.en = rb by rw [HS.out, HRB.out, List.take_of_length_le (by have := HN.out; omega)])
      have c4 : wr.cell? ⟨w2.heap.size, 4, none⟩ = some (.bool rb) := by rw [cell_at hbx, ← HE.out]; exact hsp.2.2.2.2
      have B3 := hid (show Below w.heap.size w wr from B1.out.low.trans (HJ.out.below.mono B1.out.low.size))
      clear hlt hbx hsp
      go_wp2_with fail
      try (go_quiet (fail); go_wp2_with fail)
      first
        | exact bodyPost_ret (v := .tuple #[.bool rb, .int .i64 0]) (by simp [results, Tryz.results19, go_sem]) rfl ⟨rfl, B3.out⟩
        | exact bodyPost_ret (v := .tuple #[.bool rb, .int .i64 0]) (by simp [results, Tryz.results19, go_sem]) rfl ⟨rfl, below_drewN B3.out⟩
end Go.Proofs.YtagppgncanimaaaGreatDoor
