/-
  The law RegexPrints, but for its own run on one expression.
  The document's words in parentheses; of any expression; its Print.
  The document's words: the small cases, and a sign behind a Kid.
  The document's words of alternatives.
  The document's words.
  The law's own expression: its words are read.
-/
import Derived.Test.YtagppgncanimaaaGreatDoorYNamedAnd
import Derived.Test.YtagppgncanimaaaGreatDoorZTakeAnd
namespace Go.Proofs.YtagppgncanimaaaGreatDoor
open Go.RowKit

abbrev zA : Rx := .mk 1 [97] []
abbrev zAny : Rx := .mk 3 [] []
abbrev zStar : Rx := .mk 6 [] [zAny]
abbrev zCore : Rx := .mk 2 [99, 111, 114, 101] []
abbrev zB : Rx := .mk 1 [98] []
abbrev zC : Rx := .mk 1 [99] []
abbrev zAlt : Rx := .mk 5 [] [zB, zC]
abbrev zPlus : Rx := .mk 7 [] [zAlt]
abbrev zP : List Rx := [zA, zStar, zCore, zPlus]
abbrev zR : Rx := .mk 4 [] zP
abbrev zTs : List (List UInt8) := [[97], [46], [42], [36], [99, 111, 114, 101], [40], [98], [124], [99], [41], [43]]
abbrev zText : List UInt8 := [97, 46, 42, 36, 99, 111, 114, 101, 40, 98, 124, 99, 41, 43]
theorem nodesL_0 : nodesL [] = 0 := rfl
theorem z_join1 : joinR 4 [zB] = zB := by simp [joinR, flatK, Rx.op]
theorem z_joinc : joinR 4 [zC] = zC := by simp [joinR, flatK, Rx.op]
theorem z_alt : wholeR [zB] [zC] = zAlt := by
  unfold wholeR
  rw [z_joinc]
  simp [joinR, flatK, Rx.op]
theorem z_whole : wholeR [] zP = zR := by
  have h : joinR 4 zP = zR := by simp [joinR, flatK, Rx.op]
  unfold wholeR
  rw [h]
  simp [joinR, flatK, Rx.op]
theorem z_nodes1 : zB.nodes = 1 ∧ zC.nodes = 1 ∧ zA.nodes = 1 ∧ zAny.nodes = 1 ∧ zCore.nodes = 1 := by simp [Rx.nodes_eq, Rx.kids]
theorem z0 : WordC zTs 0 [([], [])] 1 [([], [zA])] := fun B w pb vw b h hW => word_dev (Gi := []) (A := []) (P := []) (t := [97]) h (hW w (Below.refl _ _)) rfl (by kernel_rfl) (by decide) (by decide) (by decide)
theorem z1 : WordC zTs 1 [([], [zA])] 2 [([], [zA, zAny])] := fun B w pb vw b h hW => word_dot (Gi := []) (A := []) (P := [zA]) h (hW w (Below.refl _ _)) rfl (by decide) (by decide) (by decide)
theorem z2 : WordC zTs 2 [([], [zA, zAny])] 3 [([], [zA, zStar])] := fun B w pb vw b h hW => word_rep (Gi := []) (A := []) (Pi := [zA]) (r := zAny) (op := 6) h (hW w (Below.refl _ _)) (by omega) rfl (by decide) (by decide) (by decide)
theorem z3 : WordC zTs 3 [([], [zA, zStar])] 5 [([], [zA, zStar, zCore])] := fun B w pb vw b h hW => word_class (Gi := []) (A := []) (P := [zA, zStar]) (t := [99, 111, 114, 101]) h (hW w (Below.refl _ _)) rfl rfl (by kernel_rfl) (by decide) (by decide) (by decide) hW
theorem z5 : WordC zTs 5 [([], [zA, zStar, zCore])] 6 [([], [zA, zStar, zCore]), ([], [])] := fun B w pb vw b h hW => word_begin (G := [([], [zA, zStar, zCore])]) h (hW w (Below.refl _ _)) rfl (by decide) (by decide) (by decide)
theorem z6 : WordC zTs 6 [([], [zA, zStar, zCore]), ([], [])] 7 [([], [zA, zStar, zCore]), ([], [zB])] := fun B w pb vw b h hW => word_dev (Gi := [([], [zA, zStar, zCore])]) (A := []) (P := []) (t := [98]) h (hW w (Below.refl _ _)) rfl (by kernel_rfl) (by decide) (by decide) (by decide)
theorem z7 : WordC zTs 7 [([], [zA, zStar, zCore]), ([], [zB])] 8 [([], [zA, zStar, zCore]), ([zB], [])] := fun B w pb vw b h hW => by
  have := word_div (Gi := [([], [zA, zStar, zCore])]) (A := []) (P := [zB]) h (hW w (Below.refl _ _)) rfl (by decide) (by decide) (by simp) (by rw [nodesL_cons, nodesL_0, z_nodes1.1]; decide)
  rw [z_join1] at this
  exact this
theorem z8 : WordC zTs 8 [([], [zA, zStar, zCore]), ([zB], [])] 9 [([], [zA, zStar, zCore]), ([zB], [zC])] := fun B w pb vw b h hW => word_dev (Gi := [([], [zA, zStar, zCore])]) (A := [zB]) (P := []) (t := [99]) h (hW w (Below.refl _ _)) rfl (by kernel_rfl) (by decide) (by decide) (by decide)
theorem z9 : WordC zTs 9 [([], [zA, zStar, zCore]), ([zB], [zC])] 10 [([], [zA, zStar, zCore, zAlt])] := fun B w pb vw b h hW => by
  have := word_end (Gi := []) (A0 := []) (P0 := [zA, zStar, zCore]) (A := [zB]) (P := [zC]) h (hW w (Below.refl _ _)) rfl (by decide) (by decide) (by decide) (Or.inl (by simp)) (by rw [nodesL_cons, nodesL_0, nodesL_cons, nodesL_0, z_nodes1.1, z_nodes1.2.1]; decide)
  rw [z_alt] at this
  exact this
theorem z10 : WordC zTs 10 [([], [zA, zStar, zCore, zAlt])] 11 [([], zP)] := fun B w pb vw b h hW => word_rep (Gi := []) (A := []) (Pi := [zA, zStar, zCore]) (r := zAlt) (op := 7) h (hW w (Below.refl _ _)) (by omega) rfl (by decide) (by decide) (by decide)
theorem z_goes : Goes zTs 0 [([], [])] [([], zP)] :=
  .step _ _ _ _ _ (by decide) (by decide) z0 <| .step _ _ _ _ _ (by decide) (by decide) z1 <| .step _ _ _ _ _ (by decide) (by decide) z2 <| .step _ _ _ _ _ (by decide) (by decide) z3 <| .step _ _ _ _ _ (by decide) (by decide) z5 <| .step _ _ _ _ _ (by decide) (by decide) z6 <| .step _ _ _ _ _ (by decide) (by decide) z7 <| .step _ _ _ _ _ (by decide) (by decide) z8 <| .step _ _ _ _ _ (by decide) (by decide) z9 <| .step _ _ _ _ _ (by decide) (by decide) z10 <| .done _
theorem z_read : Wo.err zText = 0 ∧ (Wo.read zText).flatten.map (·.1) = zTs ∧ (Wo.read zText).length = 1 := by decide
end Go.Proofs.YtagppgncanimaaaGreatDoor
namespace Go.Proofs.YtagppgncanimaaaGreatDoor
open Go.RowKit

/-- The words of an expression where two kinds stand in parentheses. -/
def rwd (r : Rx) (a b : Int) : List (List UInt8) := if (r.op = a ∨ r.op = b) ∧ 0 < r.kids.length then [40] :: (r.wds ++ [[41]]) else r.wds
/-- The document's words, at an expression that lies in w. -/
def RWordsC (w : World) (k : Rx) (v : Value) : Prop := ∀ (a b : Int) (W : World), Below w.heap.size w W → Calls Tryz.prog 30 #[.agg #[.int .i64 k.op, .string (tx k.name), v], .int .i64 a, .int .i64 b] W fun en W' => WdsPost W (rwd k a b) en W'
theorem RWordsC.on {w W : World} {k : Rx} {v : Value} (h : RWordsC w k v) (hb : Below w.heap.size w W) : RWordsC W k v := fun a b W' hW' => h a b W' (below_2x hb hW')

theorem nodeB_op {k : Rx} (h : nodeB k = true) : k.op ≠ 0 ∧ (k.op = 5 → 2 ≤ k.kids.length) := by
  unfold nodeB at h
  refine ⟨fun e => ?_, fun e => ?_⟩
  · simp [e] at h
  · simp [e] at h
    exact h.1.2
theorem rwd_zero {k : Rx} (h : nodeB k = true) : rwd k 0 0 = k.wds := by
  unfold rwd
  rw [if_neg]
  rintro ⟨h1, _⟩
  exact (nodeB_op h).1 (h1.elim id id)
theorem rwd_one {k : Rx} (h : nodeB k = true) : rwd k 5 5 = kwd 1 (tg k) k.wds := by
  have h5 := (nodeB_op h).2
  unfold rwd kwd tg
  by_cases o5 : k.op = 5
  · rw [if_pos ⟨Or.inl o5, by have := h5 o5; omega⟩, if_pos o5, if_neg (by omega)]
  · rw [if_neg (fun q => o5 (q.1.elim id id)), if_neg o5]
    split
    · rw [if_pos (Nat.le_refl _)]
    · rw [if_pos (by omega)]
theorem rwd_two {k : Rx} (h : nodeB k = true) : rwd k 5 4 = kwd 2 (tg k) k.wds := by
  have h5 := (nodeB_op h).2
  unfold rwd kwd tg
  by_cases o5 : k.op = 5
  · rw [if_pos ⟨Or.inl o5, by have := h5 o5; omega⟩, if_pos o5, if_neg (by omega)]
  · rw [if_neg o5]
    by_cases o4 : k.op = 4 ∧ 0 < k.kids.length
    · rw [if_pos ⟨Or.inr o4.1, o4.2⟩, if_pos o4, if_neg (by omega)]
    · rw [if_neg o4, if_pos (Nat.le_refl _), if_neg]
      rintro ⟨q | q, hq⟩
      · exact o5 q
      · exact o4 ⟨q, hq⟩

set_option maxRecDepth 20000 in
set_option maxHeartbeats 2000000 in
theorem RSeq_any {w : World} {v : Value} {r : Rx} {a b : Int} (hS : RxS w v r.kids) (o4 : r.op = 4) (hab : ¬ ((r.op = a ∨ r.op = b) ∧ 0 < r.kids.length)) (hA : Rx.all nodeB r = true) (hn : r.nodes ≤ 1000) (hI : ∀ k ∈ r.kids, ∀ u, RxS w u k.kids → RWordsC w k u) :
    Calls Tryz.prog 30 #[.agg #[.int .i64 r.op, .string (tx r.name), v], .int .i64 a, .int .i64 b] w fun en w' => WdsPost w r.wds en w' := by
  obtain ⟨i0, hi, hz0, hz1, hz2⟩ := info_parts Tryz.infoStrX
  have HI := hid hi
  have HZ0 := hid hz0
  have HZ1 := hid hz1
  have HZ2 := hid hz2
  clear hi hz0 hz1 hz2
  obtain ⟨hNB, hK⟩ := (Rx.all_iff _ _).1 hA
  have hnk := r.nodes_kids
  obtain ⟨ao, cap, rfl, hat⟩ := hS.at
  have hlk := length_le r.kids
  by_cases h0 : r.kids = []
  · have HE := hid (show r.wds = [[40], [41]] by rw [r.wds_eq, o4, h0]; rfl)
    rw [HE.out, o4, show r.kids.length = 0 by rw [h0]; rfl]
    clear hS hat hNB hK hnk hI hA hab HE hlk hn
    by_cases ea : (4 : Int) = a
    · subst ea
      go_enter Tryz.func30, Tryz.ntmps30
      go_wp2
      go_ret
      exact ⟨_, rfl, ⟨rfl, Or.inr ⟨w.heap.size + 1, 2, #[.string (tx [40]), .string (tx [41])], rfl, Nat.le_succ _, by rw [show w.heap.size + 1 = (w.alloc (rxo 4 r.name (.slice ao 0 cap))).heap.size by simp]; exact new_0 _ _, Nat.le_refl _, by decide, rfl, rfl⟩⟩, ((Below.refl _ _).alloc (Nat.le_refl _) _).alloc (by simp) _⟩
    have ha : ((4 : Int) == a) = false := beq_eq_false_iff_ne.2 ea
    by_cases eb : (4 : Int) = b
    · subst eb
      clear ea
      go_enter Tryz.func30, Tryz.ntmps30
      go_wp2
      go_ret
      exact ⟨_, rfl, ⟨rfl, Or.inr ⟨w.heap.size + 1, 2, #[.string (tx [40]), .string (tx [41])], rfl, Nat.le_succ _, by rw [show w.heap.size + 1 = (w.alloc (rxo 4 r.name (.slice ao 0 cap))).heap.size by simp]; exact new_0 _ _, Nat.le_refl _, by decide, rfl, rfl⟩⟩, ((Below.refl _ _).alloc (Nat.le_refl _) _).alloc (by simp) _⟩
    have hb : ((4 : Int) == b) = false := beq_eq_false_iff_ne.2 eb
    clear ea eb
    go_enter Tryz.func30, Tryz.ntmps30
    go_wp2
    go_ret
    exact ⟨_, rfl, ⟨rfl, Or.inr ⟨w.heap.size + 1, 2, #[.string (tx [40]), .string (tx [41])], rfl, Nat.le_succ _, by rw [show w.heap.size + 1 = (w.alloc (rxo 4 r.name (.slice ao 0 cap))).heap.size by simp]; exact new_0 _ _, Nat.le_refl _, by decide, rfl, rfl⟩⟩, ((Below.refl _ _).alloc (Nat.le_refl _) _).alloc (by simp) _⟩
  · have hpos : 0 < r.kids.length := List.length_pos_iff.2 h0
    have ha : ((4 : Int) == a) = false := beq_eq_false_iff_ne.2 fun e => hab ⟨Or.inl (o4.trans e), hpos⟩
    have hb : ((4 : Int) == b) = false := beq_eq_false_iff_ne.2 fun e => hab ⟨Or.inr (o4.trans e), hpos⟩
    have HE := hid (show r.wds = seqW 1 r.kids by rw [r.wds_eq, if_neg (by omega), if_neg (by omega), if_neg (by omega), if_pos o4, if_neg (by simpa using h0)]; rfl)
    have HB0 := hid (boxed.start w r (.slice ao r.kids.length cap))
    obtain ⟨ks, hks⟩ : ∃ ks, ks = r.kids := ⟨_, rfl⟩
    rw [← hks] at hI hK hnk hat HE HB0 hlk hpos h0
    rw [HE.out, o4, ← hks]
    rw [o4] at HB0
    obtain ⟨n, hnn⟩ : ∃ n, n = ks.length := ⟨_, rfl⟩
    have HN := hid hnn
    rw [← hnn] at HB0 hpos hlk ⊢
    have hnb : n ≤ 1000 := by omega
    have hnz : ((n : Int) == 0) = false := by rw [beq_eq_false_iff_ne]; omega
    obtain ⟨g, o, rfl, hg, hcell⟩ : ∃ g o, ao = some ⟨g, o, none⟩ ∧ g < w.heap.size ∧ ∀ (i : Nat) (k : Rx), ks[i]? = some k → ∃ u un uc, w.cell? ⟨g, o + i * 3, none⟩ = some (.int .i64 k.op) ∧ w.cell? ⟨g, o + i * 3 + 1, none⟩ = some (.string (tx k.name)) ∧ w.cell? ⟨g, o + i * 3 + 2, none⟩ = some (.slice u un uc) ∧ un = k.kids.length ∧ RxS w (.slice u un uc) k.kids := by
      rcases hat with e | h
      · exact absurd e h0
      · exact h
    have HCE := hid hcell
    have HIC := hid hI
    have HAL := hid hK
    have HNL := hid (show nodesL ks ≤ 1000 by omega)
    clear hS hat hNB hK hnk hI hA hab HE hlk hn hcell h0 hks hnn hpos
    go_enter Tryz.func30, Tryz.ntmps30
    go_wp2_with fail
    go_loopw [7, 8] (fun u i wr => ∃ j : Nat, j ≤ n ∧ i = .int .i64 j ∧ Hid (wr.ownsRow (w.heap.size + 1) 9 1 u (seqW 1 (ks.take j)).length (svs (seqW 1 (ks.take j)))) ∧ Hid (boxed w r (.slice (some ⟨g, o, none⟩) n cap) wr)) (fun _ i _ => n - (intOf i).toNat)
    case atStart => exact ⟨0, Nat.zero_le _, rfl, World.ownsRow_nil _ _ _ _, HB0⟩
    case round =>
      obtain ⟨j, hj, rfl, HO, HB⟩ := hrel
      obtain ⟨X, hX⟩ : ∃ X, X = seqW 1 (ks.take j) := ⟨_, rfl⟩
      have hXl := seqW_take_len (ks := ks) 1 j
      rw [← hX] at HO hXl
      have HX := hid hX
      obtain ⟨m, hm⟩ : ∃ m, m = X.length := ⟨_, rfl⟩
      rw [← hm] at HO hXl
      have HM := hid hm
      have hmb : m ≤ 4000 := by have := HNL.out; omega
      obtain ⟨bo, vc, rfl⟩ := own_form HO.out
      obtain ⟨-, -, c2⟩ := HB.out.cells
      clear hX hm hXl
      by_cases hlt : j < n
      · obtain ⟨k, hk⟩ : ∃ k, ks[j]? = some k := ⟨ks[j]'(by rw [← HN.out]; exact hlt), List.getElem?_eq_getElem _⟩
        obtain ⟨u, un, uc, a0, a1, a2, -, hr⟩ := HCE.out j k hk
        have k0 := (HB.out.low.cell (p := ⟨g, o + j * 3, none⟩) (by exact hg)).trans a0
        have k1 := (HB.out.low.cell (p := ⟨g, o + j * 3 + 1, none⟩) (by exact hg)).trans a1
        have k2 := (HB.out.low.cell (p := ⟨g, o + j * 3 + 2, none⟩) (by exact hg)).trans a2
        have hmem := List.mem_of_getElem? hk
        have hkw := k.wds_len
        have hkn := nodesL_mem hmem
        have hkp := k.wds_pos (HAL.out k hmem)
        have hkb := HNL.out
        have HTK := hid (show seqW 1 (ks.take (j + 1)) = X ++ kwd 1 (tg k) k.wds by rw [take_snocR hk, seqW_snoc, HX.out])
        have hkl := kwd_len 1 (tg k) k.wds
        have HC := hid (HIC.out k hmem _ hr 5 5 wr HB.out.low)
        rw [rwd_one ((Rx.all_iff _ _).1 (HAL.out k hmem)).1] at HC
        obtain ⟨Y, hY⟩ : ∃ Y, Y = kwd 1 (tg k) k.wds := ⟨_, rfl⟩
        rw [← hY] at HC HTK hkl
        obtain ⟨p, hp⟩ : ∃ p, p = Y.length := ⟨_, rfl⟩
        have HP := hid hp
        rw [← hp] at hkl
        have hpb : 1 ≤ p ∧ p ≤ 4000 := by omega
        have hkI : (j : Int) < (n : Int) := by omega
        have hk0 : (0 : Int) ≤ (j : Int) := by omega
        clear hk a0 a1 a2 hr hmem hkw hkn hkp hkb hkl hY hp
        go_wp2_with fail
        refine HC.out.mono ?_
        rintro en w2 ⟨u2, rfl, hown2, hb2⟩
        rw [← HP.out] at hown2
        obtain ⟨g2, cap2, rfl, hg2, hg2l, hc2⟩ := own_someX hown2 (by omega)
        have hl2 := hown2.1
        have B2 := hid (HB.out.on hb2)
        have O2 := hid (own_keepX HO.out hb2)
        have hsz2 : w.heap.size + 1 ≤ w2.heap.size := by have := B2.out.size; simpa using this
        have N2 := hid hc2
        clear hown2 hb2 hc2 hg2
        go_wp2_with (first | (at_builtin; refine wpList_append_own_at _ rfl _ _ 47 rfl (w.heap.size + 1) 9 i0 (.string ByteArray.empty) 1 16 Tryz.underlying47 HI.out HZ0.out HZ1.out HZ2.out rfl (by decide) (.slice bo m vc) m (svs X) rfl O2.out ⟨g2, 0, none⟩ p cap2 (svs Y) rfl hl2 N2.out svs_oneX ?c3 ?c4 ?c5 ?_))
        case c3 => unfold maxLen; omega
        case c4 => omega
        case c5 => exact hsz2
        intro v3 w3 hown3 hgrow3 _ _
        obtain ⟨a3, c3, rfl⟩ := own_form hown3
        have B3 := hid (show boxed w r (.slice (some ⟨g, o, none⟩) n cap) w3 from B2.out.grown hgrow3 hsz2 (fun q hq => (O2.out.lt q hq).1))
        have O3 := hid (show w3.ownsRow (w.heap.size + 1) 9 1 (.slice a3 (m + p) c3) (seqW 1 (ks.take (j + 1))).length (svs (seqW 1 (ks.take (j + 1)))) from by
          rw [HTK.out, svs_appX, List.length_append, ← HM.out, ← HP.out]
          exact hown3)
        clear hown3 hgrow3 c2 k0 k1 k2
        go_wp2
        go_roundw
        case rel => exact ⟨j + 1, by omega, by go_num, O3, B3⟩
        case measure => simp [intOf]; omega
      · have hkI : ¬ ((j : Int) < (n : Int)) := by omega
        have HE := hid (show seqW 1 ks = X by rw [HX.out, List.take_of_length_le (by have := HN.out; omega)])
        go_wp2
        go_ret
        exact ⟨_, rfl, by rw [HE.out, ← HM.out]; exact HO.out.mono (Nat.le_succ _), HB.out.low⟩
end Go.Proofs.YtagppgncanimaaaGreatDoor
namespace Go.Proofs.YtagppgncanimaaaGreatDoor
open Go.RowKit

set_option maxRecDepth 20000 in
set_option maxHeartbeats 2000000 in
theorem RAlt_any {w : World} {v : Value} {r : Rx} {a b : Int} (hS : RxS w v r.kids) (o5 : r.op = 5) (hab : ¬ ((r.op = a ∨ r.op = b) ∧ 0 < r.kids.length)) (hA : Rx.all nodeB r = true) (hn : r.nodes ≤ 1000) (hI : ∀ k ∈ r.kids, ∀ u, RxS w u k.kids → RWordsC w k u) :
    Calls Tryz.prog 30 #[.agg #[.int .i64 r.op, .string (tx r.name), v], .int .i64 a, .int .i64 b] w fun en w' => WdsPost w r.wds en w' := by
  obtain ⟨i0, hi, hz0, hz1, hz2⟩ := info_parts Tryz.infoStrX
  have HI := hid hi
  have HZ0 := hid hz0
  have HZ1 := hid hz1
  have HZ2 := hid hz2
  clear hi hz0 hz1 hz2
  obtain ⟨hNB, hK⟩ := (Rx.all_iff _ _).1 hA
  have hnk := r.nodes_kids
  obtain ⟨ao, cap, rfl, hat⟩ := hS.at
  have hlk := length_le r.kids
  have h2 := (nodeB_op hNB).2 o5
  have h0 : r.kids ≠ [] := fun e => by rw [e] at h2; simp at h2
  have hpos : 0 < r.kids.length := by omega
  clear h2
  have ha : ((5 : Int) == a) = false := beq_eq_false_iff_ne.2 fun e => hab ⟨Or.inl (o5.trans e), hpos⟩
  have hb : ((5 : Int) == b) = false := beq_eq_false_iff_ne.2 fun e => hab ⟨Or.inr (o5.trans e), hpos⟩
  have HE := hid (show r.wds = orW r.kids by rw [r.wds_eq, if_neg (by omega), if_neg (by omega), if_neg (by omega), if_neg (by omega), if_pos o5]; rfl)
  have HB0 := hid (boxed.start w r (.slice ao r.kids.length cap))
  obtain ⟨ks, hks⟩ : ∃ ks, ks = r.kids := ⟨_, rfl⟩
  rw [← hks] at hI hK hnk hat HE HB0 hlk hpos h0
  rw [HE.out, o5, ← hks]
  rw [o5] at HB0
  obtain ⟨n, hnn⟩ : ∃ n, n = ks.length := ⟨_, rfl⟩
  have HN := hid hnn
  rw [← hnn] at HB0 hpos hlk ⊢
  have hnb : n ≤ 1000 := by omega
  have hnz : ((n : Int) == 0) = false := by rw [beq_eq_false_iff_ne]; omega
  obtain ⟨g, o, rfl, hg, hcell⟩ : ∃ g o, ao = some ⟨g, o, none⟩ ∧ g < w.heap.size ∧ ∀ (i : Nat) (k : Rx), ks[i]? = some k → ∃ u un uc, w.cell? ⟨g, o + i * 3, none⟩ = some (.int .i64 k.op) ∧ w.cell? ⟨g, o + i * 3 + 1, none⟩ = some (.string (tx k.name)) ∧ w.cell? ⟨g, o + i * 3 + 2, none⟩ = some (.slice u un uc) ∧ un = k.kids.length ∧ RxS w (.slice u un uc) k.kids := by
    rcases hat with e | h
    · exact absurd e h0
    · exact h
  have HCE := hid hcell
  have HIC := hid hI
  have HAL := hid hK
  have HNL := hid (show nodesL ks ≤ 1000 by omega)
  clear hS hat hNB hK hnk hI hA hab HE hlk hn hcell h0 hks hnn hpos
  go_enter Tryz.func30, Tryz.ntmps30
  go_wp2_with fail
  go_loopw [7, 9] (fun u i wr => ∃ j : Nat, j ≤ n ∧ i = .int .i64 j ∧ Hid (wr.ownsRow (w.heap.size + 1) 9 1 u (orW (ks.take j)).length (svs (orW (ks.take j)))) ∧ Hid (boxed w r (.slice (some ⟨g, o, none⟩) n cap) wr)) (fun _ i _ => n - (intOf i).toNat)
  case atStart => exact ⟨0, Nat.zero_le _, rfl, World.ownsRow_nil _ _ _ _, HB0⟩
  case round =>
    obtain ⟨j, hj, rfl, HO, HB⟩ := hrel
    obtain ⟨X, hX⟩ : ∃ X, X = orW (ks.take j) := ⟨_, rfl⟩
    have hXl := orW_take_len (ks := ks) j
    rw [← hX] at HO hXl
    have HX := hid hX
    obtain ⟨m, hm⟩ : ∃ m, m = X.length := ⟨_, rfl⟩
    rw [← hm] at HO hXl
    have HM := hid hm
    have hmb : m ≤ 4000 := by have := HNL.out; omega
    obtain ⟨bo, vc, rfl⟩ := own_form HO.out
    obtain ⟨-, -, c2⟩ := HB.out.cells
    clear hX hm hXl
    by_cases hlt : j < n
    · obtain ⟨k, hk⟩ : ∃ k, ks[j]? = some k := ⟨ks[j]'(by rw [← HN.out]; exact hlt), List.getElem?_eq_getElem _⟩
      obtain ⟨u, un, uc, a0, a1, a2, -, hr⟩ := HCE.out j k hk
      have k0 := (HB.out.low.cell (p := ⟨g, o + j * 3, none⟩) (by exact hg)).trans a0
      have k1 := (HB.out.low.cell (p := ⟨g, o + j * 3 + 1, none⟩) (by exact hg)).trans a1
      have k2 := (HB.out.low.cell (p := ⟨g, o + j * 3 + 2, none⟩) (by exact hg)).trans a2
      have hmem := List.mem_of_getElem? hk
      have hkw := k.wds_len
      have hkn := nodesL_mem hmem
      have hkp := k.wds_pos (HAL.out k hmem)
      have hkb := HNL.out
      have HC := hid (fun (wa : World) (hb : Below w.heap.size w wa) => HIC.out k hmem _ hr 0 0 wa hb)
      rw [rwd_zero ((Rx.all_iff _ _).1 (HAL.out k hmem)).1] at HC
      obtain ⟨Y, hY⟩ : ∃ Y, Y = k.wds := ⟨_, rfl⟩
      have HTK := hid (show orW (ks.take (j + 1)) = if j = 0 then Y else X ++ [[124]] ++ Y by
        rw [take_snocR hk, hY]
        split
        · rename_i hj0; subst hj0; exact orW_one k
        · rename_i hj0
          have hlen : (ks.take j).length = j := by rw [List.length_take]; have := HN.out; omega
          rw [orW_snoc _ _ (fun e => by rw [e] at hlen; simp at hlen; omega), HX.out])
      rw [← hY] at HC hkw hkp
      obtain ⟨p, hp⟩ : ∃ p, p = Y.length := ⟨_, rfl⟩
      have HP := hid hp
      rw [← hp] at hkw hkp
      have hpb : 1 ≤ p ∧ p ≤ 4000 := by omega
      have hkI : (j : Int) < (n : Int) := by omega
      have hk0 : (0 : Int) ≤ (j : Int) := by omega
      have HX0 := hid (show j = 0 → X = [] by intro e; rw [HX.out, e]; rfl)
      have hszr : w.heap.size + 1 ≤ wr.heap.size := by have := HB.out.size; simpa using this
      have HKC := hid (fun (wa : World) (hb : Below w.heap.size w wa) => (show wa.cell? ⟨g, o + j * 3, none⟩ = some (.int .i64 k.op) ∧ wa.cell? ⟨g, o + j * 3 + 1, none⟩ = some (.string (tx k.name)) ∧ wa.cell? ⟨g, o + j * 3 + 2, none⟩ = some (.slice u un uc) from
        ⟨(hb.cell (p := ⟨g, o + j * 3, none⟩) (by exact hg)).trans a0, (hb.cell (p := ⟨g, o + j * 3 + 1, none⟩) (by exact hg)).trans a1, (hb.cell (p := ⟨g, o + j * 3 + 2, none⟩) (by exact hg)).trans a2⟩))
      clear hk a0 a1 a2 hr hmem hkw hkn hkp hkb hY hp
      by_cases hj0 : j = 0
      · have hXe := HX0.out hj0
        subst hXe
        have hm0 : m = 0 := HM.out
        subst hm0
        have hjN : ¬ (0 < j) := by omega
        have HTE := hid (show orW (ks.take (j + 1)) = [] ++ Y by rw [HTK.out, if_pos hj0]; rfl)
        clear hj0
        go_wp2_with fail
        refine (HC.out _ HB.out.low).mono ?_
        rintro en w2 ⟨u2, rfl, hown2, hb2⟩
        rw [← HP.out] at hown2
        obtain ⟨g2, cap2, rfl, hg2, hg2l, hc2⟩ := own_someX hown2 (by omega)
        have hl2 := hown2.1
        have B2 := hid (HB.out.on hb2)
        have O2 := hid (own_keepX HO.out hb2)
        have hsz2 : w.heap.size + 1 ≤ w2.heap.size := by have := B2.out.size; simpa using this
        have N2 := hid hc2
        clear hown2 hb2 hc2 hg2
        go_wp2_with (first | (at_builtin; refine wpList_append_own_at _ rfl _ _ 47 rfl (w.heap.size + 1) 9 i0 (.string ByteArray.empty) 1 16 Tryz.underlying47 HI.out HZ0.out HZ1.out HZ2.out rfl (by decide) (.slice bo 0 vc) 0 (svs []) rfl O2.out ⟨g2, 0, none⟩ p cap2 (svs Y) rfl hl2 N2.out svs_oneX ?c3 ?c4 ?c5 ?_))
        case c3 => unfold maxLen; omega
        case c4 => omega
        case c5 => exact hsz2
        intro v3 w3 hown3 hgrow3 _ _
        obtain ⟨a3, c3, rfl⟩ := own_form hown3
        have B3 := hid (show boxed w r (.slice (some ⟨g, o, none⟩) n cap) w3 from B2.out.grown hgrow3 hsz2 (fun q hq => (O2.out.lt q hq).1))
        have O3 := hid (show w3.ownsRow (w.heap.size + 1) 9 1 (.slice a3 p c3) (orW (ks.take (j + 1))).length (svs (orW (ks.take (j + 1)))) from by
          rw [HTE.out, svs_appX, List.length_append, ← HP.out, List.length_nil, Nat.zero_add]
          exact hown3)
        clear hown3 hgrow3 c2 k0 k1 k2
        go_wp2
        go_roundw
        case rel => exact ⟨j + 1, by omega, by go_num, O3, B3⟩
        case measure => simp [intOf]; omega
      · have hjN : 0 < j := by omega
        have HTE := hid (show orW (ks.take (j + 1)) = X ++ [[124]] ++ Y by rw [HTK.out, if_neg hj0])
        go_wp2_with (first | (at_builtin; refine wpList_append_own_at _ rfl _ _ 47 rfl (w.heap.size + 1) 9 i0 (.string ByteArray.empty) 1 16 Tryz.underlying47 HI.out HZ0.out HZ1.out HZ2.out rfl (by decide) (.slice bo m vc) m (svs X) rfl (HO.out.alloc _) ⟨wr.heap.size, 0, none⟩ 1 1 [.string (tx [124])] rfl rfl (new_cells wr #[.string (tx [124])] _ _ rfl) ?d2 ?d3 ?d4 ?d5 ?_))
        case d2 => simp [Value.oneCell']
        case d3 => unfold maxLen; omega
        case d4 => omega
        case d5 => simp only [World.size_alloc]; omega
        intro v1 w1 hown1 hgrow1 _ _
        obtain ⟨a1, c1, rfl⟩ := own_form hown1
        have B1 := hid (show boxed w r (.slice (some ⟨g, o, none⟩) n cap) w1 from (HB.out.alloc hszr _).grown hgrow1 (by simp only [World.size_alloc]; omega) (fun q hq => (HO.out.lt q hq).1))
        have O1 := hid hown1
        clear hown1 hgrow1 c2 k0 k1 k2
        obtain ⟨-, -, c2⟩ := B1.out.cells
        obtain ⟨k0, k1, k2⟩ := HKC.out _ B1.out.low
        go_wp2_with fail
        refine (HC.out _ B1.out.low).mono ?_
        rintro en w2 ⟨u2, rfl, hown2, hb2⟩
        rw [← HP.out] at hown2
        obtain ⟨g2, cap2, rfl, hg2, hg2l, hc2⟩ := own_someX hown2 (by omega)
        have hl2 := hown2.1
        have B2 := hid (B1.out.on hb2)
        have O2 := hid (own_keepX O1.out hb2)
        have hsz2 : w.heap.size + 1 ≤ w2.heap.size := by have := B2.out.size; simpa using this
        have N2 := hid hc2
        clear hown2 hb2 hc2 hg2
        go_wp2_with (first | (at_builtin; refine wpList_append_own_at _ rfl _ _ 47 rfl (w.heap.size + 1) 9 i0 (.string ByteArray.empty) 1 16 Tryz.underlying47 HI.out HZ0.out HZ1.out HZ2.out rfl (by decide) (.slice a1 (m + 1) c1) (m + 1) (svs X ++ [.string (tx [124])]) rfl O2.out ⟨g2, 0, none⟩ p cap2 (svs Y) rfl hl2 N2.out svs_oneX ?c3 ?c4 ?c5 ?_))
        case c3 => unfold maxLen; omega
        case c4 => omega
        case c5 => exact hsz2
        intro v3 w3 hown3 hgrow3 _ _
        obtain ⟨a3, c3, rfl⟩ := own_form hown3
        have B3 := hid (show boxed w r (.slice (some ⟨g, o, none⟩) n cap) w3 from B2.out.grown hgrow3 hsz2 (fun q hq => (O2.out.lt q hq).1))
        have O3 := hid (show w3.ownsRow (w.heap.size + 1) 9 1 (.slice a3 (m + 1 + p) c3) (orW (ks.take (j + 1))).length (svs (orW (ks.take (j + 1)))) from by
          rw [HTE.out, svs_appX, svs_appX, List.length_append, List.length_append, ← HP.out, ← HM.out, List.append_assoc]
          exact hown3)
        clear hown3 hgrow3 c2 k0 k1 k2
        go_wp2
        go_roundw
        case rel => exact ⟨j + 1, by omega, by go_num, O3, B3⟩
        case measure => simp [intOf]; omega
    · have hkI : ¬ ((j : Int) < (n : Int)) := by omega
      have HE := hid (show orW ks = X by rw [HX.out, List.take_of_length_le (by have := HN.out; omega)])
      go_wp2
      go_ret
      exact ⟨_, rfl, by rw [HE.out, ← HM.out]; exact HO.out.mono (Nat.le_succ _), HB.out.low⟩
end Go.Proofs.YtagppgncanimaaaGreatDoor
namespace Go.Proofs.YtagppgncanimaaaGreatDoor
open Go.RowKit

theorem RLit1_any {w : World} {v : Value} {r : Rx} {a b : Int} (hS : RxS w v r.kids) (o1 : r.op = 1) (hA : nodeB r = true) :
    Calls Tryz.prog 30 #[.agg #[.int .i64 r.op, .string (tx r.name), v], .int .i64 a, .int .i64 b] w fun en w' => WdsPost w r.wds en w' := by
  have hk : r.kids.length = 0 := by
    unfold nodeB at hA
    simp_all
  obtain ⟨ao, cap, rfl, -⟩ := hS.at
  have HE := hid (show r.wds = [r.name] by rw [r.wds_eq, if_pos o1])
  rw [HE.out, o1, hk]
  clear hS hA hk HE
  by_cases ea : (1 : Int) = a
  · subst ea
    go_enter Tryz.func30, Tryz.ntmps30
    go_wp2
    go_ret
    exact ⟨_, rfl, ⟨rfl, Or.inr ⟨w.heap.size + 1, 1, #[.string (tx r.name)], rfl, Nat.le_succ _, by rw [show w.heap.size + 1 = (w.alloc (rxo 1 r.name (.slice ao 0 cap))).heap.size by simp]; exact new_0 _ _, Nat.le_refl _, by decide, rfl, rfl⟩⟩, ((Below.refl _ _).alloc (Nat.le_refl _) _).alloc (by simp) _⟩
  have ha : ((1 : Int) == a) = false := beq_eq_false_iff_ne.2 ea
  by_cases eb : (1 : Int) = b
  · subst eb
    clear ea
    go_enter Tryz.func30, Tryz.ntmps30
    go_wp2
    go_ret
    exact ⟨_, rfl, ⟨rfl, Or.inr ⟨w.heap.size + 1, 1, #[.string (tx r.name)], rfl, Nat.le_succ _, by rw [show w.heap.size + 1 = (w.alloc (rxo 1 r.name (.slice ao 0 cap))).heap.size by simp]; exact new_0 _ _, Nat.le_refl _, by decide, rfl, rfl⟩⟩, ((Below.refl _ _).alloc (Nat.le_refl _) _).alloc (by simp) _⟩
  have hb : ((1 : Int) == b) = false := beq_eq_false_iff_ne.2 eb
  clear ea eb
  go_enter Tryz.func30, Tryz.ntmps30
  go_wp2
  go_ret
  exact ⟨_, rfl, ⟨rfl, Or.inr ⟨w.heap.size + 1, 1, #[.string (tx r.name)], rfl, Nat.le_succ _, by rw [show w.heap.size + 1 = (w.alloc (rxo 1 r.name (.slice ao 0 cap))).heap.size by simp]; exact new_0 _ _, Nat.le_refl _, by decide, rfl, rfl⟩⟩, ((Below.refl _ _).alloc (Nat.le_refl _) _).alloc (by simp) _⟩
theorem RLit2_any {w : World} {v : Value} {r : Rx} {a b : Int} (hS : RxS w v r.kids) (o2 : r.op = 2) (hA : nodeB r = true) :
    Calls Tryz.prog 30 #[.agg #[.int .i64 r.op, .string (tx r.name), v], .int .i64 a, .int .i64 b] w fun en w' => WdsPost w r.wds en w' := by
  have hk : r.kids.length = 0 := by
    unfold nodeB at hA
    simp_all
  obtain ⟨ao, cap, rfl, -⟩ := hS.at
  have HE := hid (show r.wds = [[36], r.name] by rw [r.wds_eq, if_neg (by omega), if_pos o2])
  rw [HE.out, o2, hk]
  clear hS hA hk HE
  by_cases ea : (2 : Int) = a
  · subst ea
    go_enter Tryz.func30, Tryz.ntmps30
    go_wp2
    go_ret
    exact ⟨_, rfl, ⟨rfl, Or.inr ⟨w.heap.size + 1, 2, #[.string (tx [36]), .string (tx r.name)], rfl, Nat.le_succ _, by rw [show w.heap.size + 1 = (w.alloc (rxo 2 r.name (.slice ao 0 cap))).heap.size by simp]; exact new_0 _ _, Nat.le_refl _, by decide, rfl, rfl⟩⟩, ((Below.refl _ _).alloc (Nat.le_refl _) _).alloc (by simp) _⟩
  have ha : ((2 : Int) == a) = false := beq_eq_false_iff_ne.2 ea
  by_cases eb : (2 : Int) = b
  · subst eb
    clear ea
    go_enter Tryz.func30, Tryz.ntmps30
    go_wp2
    go_ret
    exact ⟨_, rfl, ⟨rfl, Or.inr ⟨w.heap.size + 1, 2, #[.string (tx [36]), .string (tx r.name)], rfl, Nat.le_succ _, by rw [show w.heap.size + 1 = (w.alloc (rxo 2 r.name (.slice ao 0 cap))).heap.size by simp]; exact new_0 _ _, Nat.le_refl _, by decide, rfl, rfl⟩⟩, ((Below.refl _ _).alloc (Nat.le_refl _) _).alloc (by simp) _⟩
  have hb : ((2 : Int) == b) = false := beq_eq_false_iff_ne.2 eb
  clear ea eb
  go_enter Tryz.func30, Tryz.ntmps30
  go_wp2
  go_ret
  exact ⟨_, rfl, ⟨rfl, Or.inr ⟨w.heap.size + 1, 2, #[.string (tx [36]), .string (tx r.name)], rfl, Nat.le_succ _, by rw [show w.heap.size + 1 = (w.alloc (rxo 2 r.name (.slice ao 0 cap))).heap.size by simp]; exact new_0 _ _, Nat.le_refl _, by decide, rfl, rfl⟩⟩, ((Below.refl _ _).alloc (Nat.le_refl _) _).alloc (by simp) _⟩
theorem RLit3_any {w : World} {v : Value} {r : Rx} {a b : Int} (hS : RxS w v r.kids) (o3 : r.op = 3) (hA : nodeB r = true) :
    Calls Tryz.prog 30 #[.agg #[.int .i64 r.op, .string (tx r.name), v], .int .i64 a, .int .i64 b] w fun en w' => WdsPost w r.wds en w' := by
  have hk : r.kids.length = 0 := by
    unfold nodeB at hA
    simp_all
  obtain ⟨ao, cap, rfl, -⟩ := hS.at
  have HE := hid (show r.wds = [[46]] by rw [r.wds_eq, if_neg (by omega), if_neg (by omega), if_pos o3])
  rw [HE.out, o3, hk]
  clear hS hA hk HE
  by_cases ea : (3 : Int) = a
  · subst ea
    go_enter Tryz.func30, Tryz.ntmps30
    go_wp2
    go_ret
    exact ⟨_, rfl, ⟨rfl, Or.inr ⟨w.heap.size + 1, 1, #[.string (tx [46])], rfl, Nat.le_succ _, by rw [show w.heap.size + 1 = (w.alloc (rxo 3 r.name (.slice ao 0 cap))).heap.size by simp]; exact new_0 _ _, Nat.le_refl _, by decide, rfl, rfl⟩⟩, ((Below.refl _ _).alloc (Nat.le_refl _) _).alloc (by simp) _⟩
  have ha : ((3 : Int) == a) = false := beq_eq_false_iff_ne.2 ea
  by_cases eb : (3 : Int) = b
  · subst eb
    clear ea
    go_enter Tryz.func30, Tryz.ntmps30
    go_wp2
    go_ret
    exact ⟨_, rfl, ⟨rfl, Or.inr ⟨w.heap.size + 1, 1, #[.string (tx [46])], rfl, Nat.le_succ _, by rw [show w.heap.size + 1 = (w.alloc (rxo 3 r.name (.slice ao 0 cap))).heap.size by simp]; exact new_0 _ _, Nat.le_refl _, by decide, rfl, rfl⟩⟩, ((Below.refl _ _).alloc (Nat.le_refl _) _).alloc (by simp) _⟩
  have hb : ((3 : Int) == b) = false := beq_eq_false_iff_ne.2 eb
  clear ea eb
  go_enter Tryz.func30, Tryz.ntmps30
  go_wp2
  go_ret
  exact ⟨_, rfl, ⟨rfl, Or.inr ⟨w.heap.size + 1, 1, #[.string (tx [46])], rfl, Nat.le_succ _, by rw [show w.heap.size + 1 = (w.alloc (rxo 3 r.name (.slice ao 0 cap))).heap.size by simp]; exact new_0 _ _, Nat.le_refl _, by decide, rfl, rfl⟩⟩, ((Below.refl _ _).alloc (Nat.le_refl _) _).alloc (by simp) _⟩

set_option maxRecDepth 20000 in
set_option maxHeartbeats 2000000 in
theorem RRep_any {w : World} {v : Value} {r : Rx} {a b : Int} (hS : RxS w v r.kids) (o6 : r.op = 6 ∨ r.op = 7 ∨ r.op = 8) (hab : ¬ ((r.op = a ∨ r.op = b) ∧ 0 < r.kids.length)) (hA : Rx.all nodeB r = true) (hn : r.nodes ≤ 1000) (hI : ∀ k ∈ r.kids, ∀ u, RxS w u k.kids → RWordsC w k u) :
    Calls Tryz.prog 30 #[.agg #[.int .i64 r.op, .string (tx r.name), v], .int .i64 a, .int .i64 b] w fun en w' => WdsPost w r.wds en w' := by
  obtain ⟨i0, hi, hz0, hz1, hz2⟩ := info_parts Tryz.infoStrX
  have HI := hid hi
  have HZ0 := hid hz0
  have HZ1 := hid hz1
  have HZ2 := hid hz2
  clear hi hz0 hz1 hz2
  obtain ⟨hNB, hK⟩ := (Rx.all_iff _ _).1 hA
  have hnk := r.nodes_kids
  obtain ⟨ao, cap, rfl, hat⟩ := hS.at
  have h1 : r.kids.length = 1 := by
    unfold nodeB at hNB
    rcases o6 with o | o | o <;> simp [o] at hNB <;> exact hNB.2
  obtain ⟨k, hk⟩ : ∃ k, r.kids = [k] := List.length_eq_one_iff.1 h1
  have HE := hid (show r.wds = kwd 2 (tg k) k.wds ++ [sgn1 r.op] by rw [r.wds_eq, if_neg (by omega), if_neg (by omega), if_neg (by omega), if_neg (by omega), if_neg (by omega), hk]; simp)
  obtain ⟨g, o, rfl, hg, hcell⟩ : ∃ g o, ao = some ⟨g, o, none⟩ ∧ g < w.heap.size ∧ ∀ (i : Nat) (k : Rx), r.kids[i]? = some k → ∃ u un uc, w.cell? ⟨g, o + i * 3, none⟩ = some (.int .i64 k.op) ∧ w.cell? ⟨g, o + i * 3 + 1, none⟩ = some (.string (tx k.name)) ∧ w.cell? ⟨g, o + i * 3 + 2, none⟩ = some (.slice u un uc) ∧ un = k.kids.length ∧ RxS w (.slice u un uc) k.kids := by
    rcases hat with e | h
    · rw [hk] at e; cases e
    · exact h
  obtain ⟨u, un, uc, k0, k1, k2, -, hr⟩ := hcell 0 k (by rw [hk]; rfl)
  rw [show o + 0 * 3 = o by omega] at k0 k1 k2
  have hmem : k ∈ r.kids := by rw [hk]; simp
  have hkw := k.wds_len
  have hkn := nodesL_mem hmem
  have hkp := k.wds_pos (hK k hmem)
  have hkl := kwd_len 2 (tg k) k.wds
  have HC := hid (fun (w1 : World) (hb1 : Below w.heap.size w w1) => hI k hmem _ hr 5 4 w1 hb1)
  rw [rwd_two ((Rx.all_iff _ _).1 (hK k hmem)).1] at HC
  obtain ⟨Y, hY⟩ : ∃ Y, Y = kwd 2 (tg k) k.wds := ⟨_, rfl⟩
  rw [← hY] at HC HE hkl
  obtain ⟨p, hp⟩ : ∃ p, p = Y.length := ⟨_, rfl⟩
  have HP := hid hp
  rw [← hp] at hkl
  have hpb : 1 ≤ p ∧ p ≤ 4000 := by omega
  have ha0 : ¬ (r.op = a) := fun e => hab ⟨Or.inl e, by omega⟩
  have hb0 : ¬ (r.op = b) := fun e => hab ⟨Or.inr e, by omega⟩
  have HB0 := hid (boxed.start w r (.slice (some ⟨g, o, none⟩) r.kids.length cap))
  rw [HE.out, h1]
  rw [h1] at HB0
  clear hS hNB hK hnk hcell hmem hkw hkn hkp hkl hY hp hat HE hab hA hI hr hk h1 hn
  rcases o6 with o6 | o6 | o6
  · have ha : ((6 : Int) == a) = false := beq_eq_false_iff_ne.2 (by rw [← o6]; exact ha0)
    have hb : ((6 : Int) == b) = false := beq_eq_false_iff_ne.2 (by rw [← o6]; exact hb0)
    rw [o6]
    have HO6 := hid o6
    rw [o6] at HB0
    clear ha0 hb0 o6
    go_enter Tryz.func30, Tryz.ntmps30
    go_wp2_with fail
    refine (HC.out _ HB0.out.low).mono ?_
    rintro en w2 ⟨u2, rfl, hown2, hb2⟩
    rw [← HP.out] at hown2
    obtain ⟨g2, cap2, rfl, hg2, hg2l, hc2⟩ := own_someX hown2 (by omega)
    have B2 := hid (HB0.out.on hb2)
    have O2 := hid (show w2.ownsRow (w.heap.size + 1) 9 1 (.slice (some ⟨g2, 0, none⟩) p cap2) p (svs Y) from by rw [show w.heap.size + 1 = (w.alloc (rxo 6 r.name (.slice (some ⟨g, o, none⟩) 1 cap))).heap.size by simp]; exact hown2)
    have hsz2 : w.heap.size + 1 ≤ w2.heap.size := by have := B2.out.size; simpa using this
    obtain ⟨c0, -, -⟩ := B2.out.cells
    rw [HO6.out] at c0
    clear hown2 hb2 hc2 hg2
    go_wp2_with (first | (at_builtin; refine wpList_append_own_at _ rfl _ _ 47 rfl (w.heap.size + 1) 9 i0 (.string ByteArray.empty) 1 16 Tryz.underlying47 HI.out HZ0.out HZ1.out HZ2.out rfl (by decide) (.slice (some ⟨g2, 0, none⟩) p cap2) p (svs Y) rfl (O2.out.alloc _) ⟨w2.heap.size, 0, none⟩ 1 1 [.string (tx [42])] rfl rfl (new_cells w2 #[.string (tx [42])] _ _ rfl) ?d2 ?d3 ?d4 ?d5 ?_))
    case d2 => simp [Value.oneCell']
    case d3 => unfold maxLen; omega
    case d4 => omega
    case d5 => simp only [World.size_alloc]; omega
    intro v3 w3 hown3 hgrow3 _ _
    obtain ⟨a3, c3, rfl⟩ := own_form hown3
    have B3 := hid (show boxed w r (.slice (some ⟨g, o, none⟩) 1 cap) w3 from (B2.out.alloc hsz2 _).grown hgrow3 (by simp only [World.size_alloc]; omega) (fun q hq => (O2.out.lt q hq).1))
    have O3 := hid (show w3.ownsRow w.heap.size 9 1 (.slice a3 (p + 1) c3) (Y ++ [sgn1 6]).length (svs (Y ++ [sgn1 6])) from by
      rw [svs_appX, List.length_append, ← HP.out]
      exact hown3.mono (Nat.le_succ _))
    clear hown3 hgrow3 c0
    go_wp2
    go_ret
    exact ⟨_, rfl, O3.out, B3.out.low⟩
  · have ha : ((7 : Int) == a) = false := beq_eq_false_iff_ne.2 (by rw [← o6]; exact ha0)
    have hb : ((7 : Int) == b) = false := beq_eq_false_iff_ne.2 (by rw [← o6]; exact hb0)
    rw [o6]
    have HO6 := hid o6
    rw [o6] at HB0
    clear ha0 hb0 o6
    go_enter Tryz.func30, Tryz.ntmps30
    go_wp2_with fail
    refine (HC.out _ HB0.out.low).mono ?_
    rintro en w2 ⟨u2, rfl, hown2, hb2⟩
    rw [← HP.out] at hown2
    obtain ⟨g2, cap2, rfl, hg2, hg2l, hc2⟩ := own_someX hown2 (by omega)
    have B2 := hid (HB0.out.on hb2)
    have O2 := hid (show w2.ownsRow (w.heap.size + 1) 9 1 (.slice (some ⟨g2, 0, none⟩) p cap2) p (svs Y) from by rw [show w.heap.size + 1 = (w.alloc (rxo 7 r.name (.slice (some ⟨g, o, none⟩) 1 cap))).heap.size by simp]; exact hown2)
    have hsz2 : w.heap.size + 1 ≤ w2.heap.size := by have := B2.out.size; simpa using this
    obtain ⟨c0, -, -⟩ := B2.out.cells
    rw [HO6.out] at c0
    clear hown2 hb2 hc2 hg2
    go_wp2_with (first | (at_builtin; refine wpList_append_own_at _ rfl _ _ 47 rfl (w.heap.size + 1) 9 i0 (.string ByteArray.empty) 1 16 Tryz.underlying47 HI.out HZ0.out HZ1.out HZ2.out rfl (by decide) (.slice (some ⟨g2, 0, none⟩) p cap2) p (svs Y) rfl (O2.out.alloc _) ⟨w2.heap.size, 0, none⟩ 1 1 [.string (tx [43])] rfl rfl (new_cells w2 #[.string (tx [43])] _ _ rfl) ?d2 ?d3 ?d4 ?d5 ?_))
    case d2 => simp [Value.oneCell']
    case d3 => unfold maxLen; omega
    case d4 => omega
    case d5 => simp only [World.size_alloc]; omega
    intro v3 w3 hown3 hgrow3 _ _
    obtain ⟨a3, c3, rfl⟩ := own_form hown3
    have B3 := hid (show boxed w r (.slice (some ⟨g, o, none⟩) 1 cap) w3 from (B2.out.alloc hsz2 _).grown hgrow3 (by simp only [World.size_alloc]; omega) (fun q hq => (O2.out.lt q hq).1))
    have O3 := hid (show w3.ownsRow w.heap.size 9 1 (.slice a3 (p + 1) c3) (Y ++ [sgn1 7]).length (svs (Y ++ [sgn1 7])) from by
      rw [svs_appX, List.length_append, ← HP.out]
      exact hown3.mono (Nat.le_succ _))
    clear hown3 hgrow3 c0
    go_wp2
    go_ret
    exact ⟨_, rfl, O3.out, B3.out.low⟩
  · have ha : ((8 : Int) == a) = false := beq_eq_false_iff_ne.2 (by rw [← o6]; exact ha0)
    have hb : ((8 : Int) == b) = false := beq_eq_false_iff_ne.2 (by rw [← o6]; exact hb0)
    rw [o6]
    have HO6 := hid o6
    rw [o6] at HB0
    clear ha0 hb0 o6
    go_enter Tryz.func30, Tryz.ntmps30
    go_wp2_with fail
    refine (HC.out _ HB0.out.low).mono ?_
    rintro en w2 ⟨u2, rfl, hown2, hb2⟩
    rw [← HP.out] at hown2
    obtain ⟨g2, cap2, rfl, hg2, hg2l, hc2⟩ := own_someX hown2 (by omega)
    have B2 := hid (HB0.out.on hb2)
    have O2 := hid (show w2.ownsRow (w.heap.size + 1) 9 1 (.slice (some ⟨g2, 0, none⟩) p cap2) p (svs Y) from by rw [show w.heap.size + 1 = (w.alloc (rxo 8 r.name (.slice (some ⟨g, o, none⟩) 1 cap))).heap.size by simp]; exact hown2)
    have hsz2 : w.heap.size + 1 ≤ w2.heap.size := by have := B2.out.size; simpa using this
    obtain ⟨c0, -, -⟩ := B2.out.cells
    rw [HO6.out] at c0
    clear hown2 hb2 hc2 hg2
    go_wp2_with (first | (at_builtin; refine wpList_append_own_at _ rfl _ _ 47 rfl (w.heap.size + 1) 9 i0 (.string ByteArray.empty) 1 16 Tryz.underlying47 HI.out HZ0.out HZ1.out HZ2.out rfl (by decide) (.slice (some ⟨g2, 0, none⟩) p cap2) p (svs Y) rfl (O2.out.alloc _) ⟨w2.heap.size, 0, none⟩ 1 1 [.string (tx [63])] rfl rfl (new_cells w2 #[.string (tx [63])] _ _ rfl) ?d2 ?d3 ?d4 ?d5 ?_))
    case d2 => simp [Value.oneCell']
    case d3 => unfold maxLen; omega
    case d4 => omega
    case d5 => simp only [World.size_alloc]; omega
    intro v3 w3 hown3 hgrow3 _ _
    obtain ⟨a3, c3, rfl⟩ := own_form hown3
    have B3 := hid (show boxed w r (.slice (some ⟨g, o, none⟩) 1 cap) w3 from (B2.out.alloc hsz2 _).grown hgrow3 (by simp only [World.size_alloc]; omega) (fun q hq => (O2.out.lt q hq).1))
    have O3 := hid (show w3.ownsRow w.heap.size 9 1 (.slice a3 (p + 1) c3) (Y ++ [sgn1 8]).length (svs (Y ++ [sgn1 8])) from by
      rw [svs_appX, List.length_append, ← HP.out]
      exact hown3.mono (Nat.le_succ _))
    clear hown3 hgrow3 c0
    go_wp2
    go_ret
    exact ⟨_, rfl, O3.out, B3.out.low⟩
end Go.Proofs.YtagppgncanimaaaGreatDoor
namespace Go.Proofs.YtagppgncanimaaaGreatDoor
open Go.RowKit

set_option maxRecDepth 20000 in
set_option maxHeartbeats 2000000 in
theorem RPar_any {w : World} {v : Value} {r : Rx} {a b : Int} (hS : RxS w v r.kids) (hab : r.op = a ∨ r.op = b) (hk : 0 < r.kids.length) (hp : 1 ≤ r.wds.length) (hl : r.wds.length ≤ 1000000)
    (hC : ∀ W, Below w.heap.size w W → Calls Tryz.prog 30 #[.agg #[.int .i64 r.op, .string (tx r.name), v], .int .i64 0, .int .i64 0] W fun en W' => WdsPost W r.wds en W') :
    Calls Tryz.prog 30 #[.agg #[.int .i64 r.op, .string (tx r.name), v], .int .i64 a, .int .i64 b] w fun en w' => WdsPost w ([40] :: (r.wds ++ [[41]])) en w' := by
  obtain ⟨i0, hi, hz0, hz1, hz2⟩ := info_parts Tryz.infoStrX
  have HI := hid hi
  have HZ0 := hid hz0
  have HZ1 := hid hz1
  have HZ2 := hid hz2
  clear hi hz0 hz1 hz2
  obtain ⟨ao, cap, rfl, -⟩ := hS.at
  have HB0 := hid (boxed.start w r (.slice ao r.kids.length cap))
  have HC := hid hC
  obtain ⟨n, hn⟩ : ∃ n, n = r.kids.length := ⟨_, rfl⟩
  rw [← hn] at HC HB0 hk ⊢
  have hkI : (0 : Int) < (n : Int) := by omega
  obtain ⟨l, hll⟩ : ∃ l, l = r.wds := ⟨_, rfl⟩
  rw [← hll] at HC hp hl ⊢
  obtain ⟨q, hq⟩ : ∃ q, q = l.length := ⟨_, rfl⟩
  have HN := hid hq
  rw [← hq] at hp hl
  have BA := hid (show Below w.heap.size w ((w.alloc (rxo r.op r.name (.slice ao n cap))).alloc (.cells #[.string (tx [40])] 9)) from ((Below.refl _ _).alloc (Nat.le_refl _) _).alloc (by simp) _)
  have OA := hid (show ((w.alloc (rxo r.op r.name (.slice ao n cap))).alloc (.cells #[.string (tx [40])] 9)).ownsRow w.heap.size 9 1 (.slice (some ⟨w.heap.size + 1, 0, none⟩) 1 1) 1 (svs [[40]]) from
    ⟨rfl, Or.inr ⟨w.heap.size + 1, 1, #[.string (tx [40])], rfl, Nat.le_succ _, by rw [show w.heap.size + 1 = (w.alloc (rxo r.op r.name (.slice ao n cap))).heap.size by simp]; exact new_0 _ _, Nat.le_refl _, by decide, rfl, rfl⟩⟩)
  clear hS hn hC hll hq HB0
  by_cases ea : r.op = a
  · subst ea
    clear hab
    go_enter Tryz.func30, Tryz.ntmps30
    go_wp2_with fail
    refine (HC.out _ BA.out).mono ?_
    rintro en w2 ⟨u2, rfl, hown2, hb2⟩
    rw [← HN.out] at hown2
    obtain ⟨g2, cap2, rfl, hg2, hg2l, hc2⟩ := own_someX hown2 (by omega)
    have hl2 := hown2.1
    have B2 := hid (show Below w.heap.size w w2 from BA.out.trans (hb2.mono BA.out.size))
    have O2 := hid (own_keepX OA.out hb2)
    have hsz2 := B2.out.size
    have N2 := hid hc2
    clear hown2 hb2 hc2 hg2
    go_wp2_with (first | (at_builtin; refine wpList_append_own_at _ rfl _ _ 47 rfl w.heap.size 9 i0 (.string ByteArray.empty) 1 16 Tryz.underlying47 HI.out HZ0.out HZ1.out HZ2.out rfl (by decide) (.slice (some ⟨w.heap.size + 1, 0, none⟩) 1 1) 1 (svs [[40]]) rfl O2.out ⟨g2, 0, none⟩ q cap2 (svs l) rfl hl2 N2.out svs_oneX ?c3 ?c4 ?c5 ?_))
    case c3 => unfold maxLen; omega
    case c4 => omega
    case c5 => exact hsz2
    intro v3 w3 hown3 hgrow3 _ _
    obtain ⟨a3, c3, rfl⟩ := own_form hown3
    have B3 := hid (show Below w.heap.size w w3 from B2.out.grown hgrow3 hsz2 (fun x hx => (O2.out.lt x hx).1))
    have O3 := hid hown3
    have hsz3 := B3.out.size
    clear hown3 hgrow3
    go_wp2_with (first | (at_builtin; refine wpList_append_own_at _ rfl _ _ 47 rfl w.heap.size 9 i0 (.string ByteArray.empty) 1 16 Tryz.underlying47 HI.out HZ0.out HZ1.out HZ2.out rfl (by decide) (.slice a3 (1 + q) c3) (1 + q) (svs [[40]] ++ svs l) rfl (O3.out.alloc _) ⟨w3.heap.size, 0, none⟩ 1 1 [.string (tx [41])] rfl rfl (new_cells _ #[.string (tx [41])] _ _ rfl) ?d2 ?d3 ?d4 ?d5 ?_))
    case d2 => simp [Value.oneCell']
    case d3 => unfold maxLen; omega
    case d4 => omega
    case d5 => simp only [World.size_alloc]; omega
    intro v4 w4 hown4 hgrow4 _ _
    obtain ⟨a4, c4, rfl⟩ := own_form hown4
    have B4 := hid (show Below w.heap.size w w4 from (B3.out.alloc hsz3 _).grown hgrow4 (by simp only [World.size_alloc]; omega) (fun x hx => (O3.out.lt x hx).1))
    have O4 := hid (show w4.ownsRow w.heap.size 9 1 (.slice a4 (1 + q + 1) c4) ([40] :: (l ++ [[41]])).length (svs ([40] :: (l ++ [[41]]))) from by
      have e1 : svs ([40] :: (l ++ [[41]])) = svs [[40]] ++ svs l ++ [.string (tx [41])] := by simp [svs]
      have e2 : ([40] :: (l ++ [[41]])).length = 1 + q + 1 := by rw [HN.out]; simp; omega
      rw [e1, e2]
      exact hown4)
    clear hown4 hgrow4
    go_wp2
    go_ret
    exact ⟨_, rfl, O4.out, B4.out⟩
  · have eb : r.op = b := hab.resolve_left ea
    have ha : (r.op == a) = false := beq_eq_false_iff_ne.2 ea
    subst eb
    clear hab ea
    go_enter Tryz.func30, Tryz.ntmps30
    go_wp2_with fail
    refine (HC.out _ BA.out).mono ?_
    rintro en w2 ⟨u2, rfl, hown2, hb2⟩
    rw [← HN.out] at hown2
    obtain ⟨g2, cap2, rfl, hg2, hg2l, hc2⟩ := own_someX hown2 (by omega)
    have hl2 := hown2.1
    have B2 := hid (show Below w.heap.size w w2 from BA.out.trans (hb2.mono BA.out.size))
    have O2 := hid (own_keepX OA.out hb2)
    have hsz2 := B2.out.size
    have N2 := hid hc2
    clear hown2 hb2 hc2 hg2
    go_wp2_with (first | (at_builtin; refine wpList_append_own_at _ rfl _ _ 47 rfl w.heap.size 9 i0 (.string ByteArray.empty) 1 16 Tryz.underlying47 HI.out HZ0.out HZ1.out HZ2.out rfl (by decide) (.slice (some ⟨w.heap.size + 1, 0, none⟩) 1 1) 1 (svs [[40]]) rfl O2.out ⟨g2, 0, none⟩ q cap2 (svs l) rfl hl2 N2.out svs_oneX ?c3 ?c4 ?c5 ?_))
    case c3 => unfold maxLen; omega
    case c4 => omega
    case c5 => exact hsz2
    intro v3 w3 hown3 hgrow3 _ _
    obtain ⟨a3, c3, rfl⟩ := own_form hown3
    have B3 := hid (show Below w.heap.size w w3 from B2.out.grown hgrow3 hsz2 (fun x hx => (O2.out.lt x hx).1))
    have O3 := hid hown3
    have hsz3 := B3.out.size
    clear hown3 hgrow3
    go_wp2_with (first | (at_builtin; refine wpList_append_own_at _ rfl _ _ 47 rfl w.heap.size 9 i0 (.string ByteArray.empty) 1 16 Tryz.underlying47 HI.out HZ0.out HZ1.out HZ2.out rfl (by decide) (.slice a3 (1 + q) c3) (1 + q) (svs [[40]] ++ svs l) rfl (O3.out.alloc _) ⟨w3.heap.size, 0, none⟩ 1 1 [.string (tx [41])] rfl rfl (new_cells _ #[.string (tx [41])] _ _ rfl) ?d2 ?d3 ?d4 ?d5 ?_))
    case d2 => simp [Value.oneCell']
    case d3 => unfold maxLen; omega
    case d4 => omega
    case d5 => simp only [World.size_alloc]; omega
    intro v4 w4 hown4 hgrow4 _ _
    obtain ⟨a4, c4, rfl⟩ := own_form hown4
    have B4 := hid (show Below w.heap.size w w4 from (B3.out.alloc hsz3 _).grown hgrow4 (by simp only [World.size_alloc]; omega) (fun x hx => (O3.out.lt x hx).1))
    have O4 := hid (show w4.ownsRow w.heap.size 9 1 (.slice a4 (1 + q + 1) c4) ([40] :: (l ++ [[41]])).length (svs ([40] :: (l ++ [[41]]))) from by
      have e1 : svs ([40] :: (l ++ [[41]])) = svs [[40]] ++ svs l ++ [.string (tx [41])] := by simp [svs]
      have e2 : ([40] :: (l ++ [[41]])).length = 1 + q + 1 := by rw [HN.out]; simp; omega
      rw [e1, e2]
      exact hown4)
    clear hown4 hgrow4
    go_wp2
    go_ret
    exact ⟨_, rfl, O4.out, B4.out⟩

theorem Rwords_any (r : Rx) : ∀ {w : World} {v : Value}, RxS w v r.kids → Rx.all nodeB r = true → r.nodes ≤ 1000 → RWordsC w r v := by
  induction r using Rx.ind with
  | h r ih =>
    intro w v hS hA hn
    obtain ⟨hN, hK⟩ := (Rx.all_iff _ _).1 hA
    have hnk := r.nodes_kids
    have hwl := r.wds_len
    have plain : ∀ (a b : Int), ¬ ((r.op = a ∨ r.op = b) ∧ 0 < r.kids.length) → ∀ W, Below w.heap.size w W → Calls Tryz.prog 30 #[.agg #[.int .i64 r.op, .string (tx r.name), v], .int .i64 a, .int .i64 b] W fun en W' => WdsPost W r.wds en W' := by
      intro a b hab W hb
      have hSW := hS.on hb
      have hI : ∀ k ∈ r.kids, ∀ u, RxS W u k.kids → RWordsC W k u := fun k hk u hu => ih k hk hu (hK k hk) (by have := nodesL_mem hk; omega)
      by_cases o1 : r.op = 1
      · exact RLit1_any hSW o1 hN
      by_cases o2 : r.op = 2
      · exact RLit2_any hSW o2 hN
      by_cases o3 : r.op = 3
      · exact RLit3_any hSW o3 hN
      by_cases o4 : r.op = 4
      · exact RSeq_any hSW o4 hab hA hn hI
      by_cases o5 : r.op = 5
      · exact RAlt_any hSW o5 hab hA hn hI
      refine RRep_any hSW ?_ hab hA hn hI
      unfold nodeB at hN
      simp [o1, o2, o3, o4, o5] at hN
      exact hN.1
    intro a b W hb
    unfold rwd
    split
    · rename_i h
      exact RPar_any (hS.on hb) h.1 h.2 (r.wds_pos hA) (by omega) (fun W' hW' => plain 0 0 (fun q => (nodeB_op hN).1 (q.1.elim id id)) W' (below_2x hb hW'))
    · rename_i h
      exact plain a b h W hb

set_option maxRecDepth 4000 in
set_option maxHeartbeats 2000000 in
theorem RPrint_any {w : World} {v : Value} {r : Rx} (hS : RxS w v r.kids) (hF : r.Fit) : Calls Tryz.prog 9 #[.agg #[.int .i64 r.op, .string (tx r.name), v]] w fun e w' => e = .returned (.tuple #[.string (tx (prS r)), .int .i64 (chkN r)]) ∧ Below w.heap.size w w' := by
  have HCK := hid (fun (W : World) (hb : Below w.heap.size w W) => RCheck_any (r := r) (hS.on hb) hF)
  have HWO := hid (fun (h1 : Rx.all nodeB r = true) (h2 : r.nodes ≤ 1000) (W : World) (hb : Below w.heap.size w W) => Rwords_any r (hS.on hb) h1 h2 0 0 W (Below.refl _ _))
  obtain ⟨ao, cap, rfl, -⟩ := hS.at
  have HB0 := hid (boxed.start w r (.slice ao r.kids.length cap))
  clear hS hF
  by_cases hc : chkN r = 0
  · obtain ⟨h1, h2⟩ := chk_zero hc
    have HW2 := hid (HWO.out h1 h2)
    rw [rwd_zero ((Rx.all_iff _ _).1 h1).1] at HW2
    have hwl := r.wds_len
    have HSY := hid (fun (W : World) (u : Value) (ht : Txs W u r.wds) => RSay_anyX u r.wds W ht (by omega) (fun l hl => Nat.le_trans (r.wds_ok h1 l hl).2 (by omega)))
    rw [wds_sayE h1] at HSY
    have HE := hid (show prS r = sayS r.wds by unfold prS; rw [if_pos hc])
    rw [HE.out, hc]
    rw [hc] at HCK
    clear hwl h1 h2 HWO HE
    go_enter Tryz.func9, Tryz.ntmps9
    go_wp2_with fail
    refine (HCK.out _ ((Below.refl _ _).alloc (Nat.le_refl _) _)).mono ?_
    rintro en w1 ⟨rfl, hb1⟩
    have B1 := hid (HB0.out.on hb1)
    obtain ⟨c0, c1, c2⟩ := B1.out.cells
    clear hb1
    go_wp2_with fail
    refine (HW2.out _ B1.out.low).mono ?_
    rintro en w2 ⟨u2, rfl, hown2, hb2⟩
    have B2 := hid (B1.out.on hb2)
    have HT := hid (own_txs hown2)
    clear hown2 hb2
    go_wp2_with fail
    refine (HSY.out _ _ HT.out).mono ?_
    rintro en w3 ⟨rfl, hb3⟩
    have B3 := hid (B2.out.on hb3)
    clear hb3 c0 c1 c2
    go_wp2
    refine bodyPost_ret (v := .tuple #[.string (tx (sayS r.wds)), .int .i64 0]) (by simp [results, Tryz.results9, go_sem]) rfl ⟨rfl, B3.out.low⟩
  · have HE := hid (show prS r = [] by unfold prS; rw [if_neg hc])
    rw [HE.out]
    obtain ⟨c, hcc⟩ : ∃ c, c = chkN r := ⟨_, rfl⟩
    rw [← hcc] at HCK ⊢
    have hcI : ((c : Int) == 0) = false := by rw [beq_eq_false_iff_ne]; omega
    clear HE HWO hc hcc
    go_enter Tryz.func9, Tryz.ntmps9
    go_wp2_with fail
    refine (HCK.out _ ((Below.refl _ _).alloc (Nat.le_refl _) _)).mono ?_
    rintro en w1 ⟨rfl, hb1⟩
    have B1 := hid (HB0.out.on hb1)
    clear hb1
    go_wp2
    refine bodyPost_ret (v := .tuple #[.string (tx []), .int .i64 c]) (by simp [results, Tryz.results9, go_sem]) rfl ⟨rfl, B1.out.low⟩
end Go.Proofs.YtagppgncanimaaaGreatDoor
namespace Go.Proofs.YtagppgncanimaaaGreatDoor
open Go.RowKit

/-- The law's own run answers true, in any world. -/
def Awake9 : Prop := ∀ w : World, Calls Tryz.prog 14 #[] w fun e w' => e = .returned (.bool true) ∧ Below w.heap.size w w'

set_option maxRecDepth 20000 in
set_option maxHeartbeats 2000000 in
theorem prints_any {w : World} {v : Value} {r : Rx} (hS : RxS w v r.kids) (hF : r.Fit) (hAw : Awake9) : Calls Tryz.prog 3 #[.agg #[.int .i64 r.op, .string (tx r.name), v]] w fun e w' => e = .returned (.bool true) ∧ Below w.heap.size w w' := by
  have HP := hid (fun (W : World) (hb : Below w.heap.size w W) => gPrint_any (r := r) (hS.on hb) hF)
  have HQ := hid (fun (W : World) (hb : Below w.heap.size w W) => RPrint_any (r := r) (hS.on hb) hF)
  have HA := hid (fun (W : World) (hb : Below w.heap.size w W) => Size_any (r := r) (hS.on hb))
  have HB := hid (fun (W : World) (hb : Below w.heap.size w W) => RSize_any (r := r) (hS.on hb))
  have HC := hid (fun (W : World) (hb : Below w.heap.size w W) => gCheck_any (r := r) (hS.on hb) hF)
  have HD := hid (fun (W : World) (hb : Below w.heap.size w W) => RCheck_any (r := r) (hS.on hb) hF)
  have HAw := hid hAw
  unfold Awake9 at HAw
  obtain ⟨ao, cap, rfl, -⟩ := hS.at
  have HB0 := hid (boxed.start w r (.slice ao r.kids.length cap))
  obtain ⟨c, hc⟩ : ∃ c, c = chkN r := ⟨_, rfl⟩
  obtain ⟨s, hs⟩ : ∃ s, s = prS r := ⟨_, rfl⟩
  obtain ⟨x, hx⟩ : ∃ x, x = (szN r).1 := ⟨_, rfl⟩
  obtain ⟨y, hy⟩ : ∃ y, y = (szN r).2 := ⟨_, rfl⟩
  have hcb : c ≤ 1000 := by rw [hc]; unfold chkN; split <;> (try split) <;> (try split) <;> omega
  rw [← hc, ← hs] at HP HQ
  rw [← hc] at HC HD
  rw [← hx, ← hy] at HA HB
  clear hS hF hAw hc hs hx hy
  go_enter Tryz.func3, Tryz.ntmps3
  go_wp2_with fail
  refine (HP.out _ HB0.out.low).mono ?_
  rintro en w1 ⟨rfl, hb1⟩
  have B1 := hid (HB0.out.on hb1)
  obtain ⟨c0, c1, c2⟩ := B1.out.cells
  clear hb1
  go_wp2_with fail
  refine (HQ.out _ B1.out.low).mono ?_
  rintro en w2 ⟨rfl, hb2⟩
  have B2 := hid (B1.out.on hb2)
  clear c0 c1 c2
  obtain ⟨c0, c1, c2⟩ := B2.out.cells
  clear hb2
  go_wp2_with fail
  refine (HA.out _ B2.out.low).mono ?_
  rintro en w3 ⟨rfl, hb3⟩
  have B3 := hid (B2.out.on hb3)
  clear c0 c1 c2
  obtain ⟨c0, c1, c2⟩ := B3.out.cells
  clear hb3
  go_wp2_with fail
  refine (HB.out _ B3.out.low).mono ?_
  rintro en w4 ⟨rfl, hb4⟩
  have B4 := hid (B3.out.on hb4)
  clear c0 c1 c2
  obtain ⟨c0, c1, c2⟩ := B4.out.cells
  clear hb4
  have B5 := hid (show boxed w r (.slice ao r.kids.length cap) w4.drew from B4.out.drew)
  have HCc := hid (show Calls Tryz.prog 12 #[.agg #[.int .i64 r.op, .string (tx r.name), .slice ao r.kids.length cap]] w4.drew fun en w6 => en = .returned (.int .i64 c) ∧ (w6.cell? ⟨w.heap.size, 0, none⟩ = some (.int .i64 r.op) ∧ w6.cell? ⟨w.heap.size, 1, none⟩ = some (.string (tx r.name)) ∧ w6.cell? ⟨w.heap.size, 2, none⟩ = some (.slice ao r.kids.length cap)) ∧ Hid (boxed w r (.slice ao r.kids.length cap) w6) from (HC.out _ B5.out.low).mono fun en w6 h => ⟨h.1, (B5.out.on h.2).cells, B5.out.on h.2⟩)
  go_wp2_with fail
  go_region_held3 (fun w' => w'.cell? ⟨w.heap.size, 0, none⟩ = some (.int .i64 r.op) ∧ w'.cell? ⟨w.heap.size, 1, none⟩ = some (.string (tx r.name)) ∧ w'.cell? ⟨w.heap.size, 2, none⟩ = some (.slice ao r.kids.length cap)) (first | (go_keep; done) | exact S8 | exact S7 | exact S6) (first | (go_at_call 12; refine HCc.out.mono ?_; rintro en w6 ⟨rfl, S6, B6⟩) | (go_at_call 13; refine (HD.out _ B6.out.low).mono ?_; rintro en w7 ⟨rfl, hb7⟩; have B7 := hid (B6.out.on hb7); have S7 := B7.out.cells) | (go_at_call 14; refine (HAw.out _).mono ?_; rintro en w8 ⟨rfl, hb8⟩; have B8 := hid (B7.out.on hb8); have S8 := B8.out.cells) | fail)
  go_wp2
  go_ret
  exact ⟨rfl, B8.out.low⟩
end Go.Proofs.YtagppgncanimaaaGreatDoor
