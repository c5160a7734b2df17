/-
  The program's takeInRow.
  The program's takeInEach: the walk.
  The program's takeInEach.
  The program's fits.
  The program's spotOf: the walk.
-/
import Derived.Test.YtagppgncanimaaaGreatDoorYEndAnd
import Derived.Test.YtagppgncanimaaaGreatDoorYJoinAnd
namespace Go.Proofs.YtagppgncanimaaaGreatDoor
open Go.RowKit

set_option maxRecDepth 20000 in
set_option maxHeartbeats 10000000 in
theorem spotOf_any (r : Rx) : ∀ {w : World} {v : Value}, RxS w v r.kids → r.nodes ≤ 1000000 → OfC w r v := by
  induction r using Rx.ind with
  | h r ih =>
    intro w0 v hS hn W hb
    have hSW := hS.on hb
    have HIH := hid (fun (k : Rx) (hk : k ∈ r.kids) (u : Value) (w1 : World) (hu : RxS w1 u k.kids) => ih k hk hu (by have := nodesL_mem hk; have := r.nodes_kids; omega))
    obtain ⟨i0, hi, hz0, hz1, hz2⟩ := info_parts Tryz.infoSpot
    have HI := hid hi
    have HZ0 := hid hz0
    have HZ1 := hid hz1
    have HZ2 := hid hz2
    clear hi hz0 hz1 hz2 hS hb ih w0
    obtain ⟨ao, cap, rfl, hat⟩ := hSW.at
    obtain ⟨n, hnn⟩ : ∃ n, n = r.kids.length := ⟨_, rfl⟩
    have HN := hid hnn
    have hnb : n ≤ 1000000 := by have := length_le r.kids; have := r.nodes_kids; omega
    rw [← hnn]
    have HAT := hid hat
    clear hSW hat hnn hn
    go_enter Tryz.func40, Tryz.ntmps40
    go_wp2_with fail
    generalize hw0 : ((W.alloc (Obj.cells #[.int .i64 r.op, .string (tx r.name), .slice ao n cap] 25)).alloc (Obj.cells #[.int .i64 0, .string ⟨#[]⟩, .slice none 0 0, .bool false, .bool false] 76)).alloc (Obj.cells #[.int .i64 r.op, .string (tx r.name), .slice none 0 0, .bool false, .bool false] 76) = w0
    have hst : w0.heap.size = W.heap.size + 3 ∧ w0.heap[W.heap.size + 1]? = some (.cells #[.int .i64 0, .string ⟨#[]⟩, .slice none 0 0, .bool false, .bool false] 76 (0, 0)) ∧ w0.heap[W.heap.size + 1 + 1]? = some (.cells #[.int .i64 r.op, .string (tx r.name), .slice none 0 0, .bool false, .bool false] 76 (0, 0)) ∧ Below W.heap.size W w0 := by
      refine ⟨by rw [← hw0]; simp, ?_, ?_, ?_⟩
      · rw [← hw0, Below.heap_alloc _ _ _ (by simp)]
        have := new_0 (W.alloc (Obj.cells #[.int .i64 r.op, .string (tx r.name), .slice ao n cap] 25)) (Obj.cells #[.int .i64 0, .string ⟨#[]⟩, .slice none 0 0, .bool false, .bool false] 76)
        rw [World.size_alloc] at this
        exact this
      · rw [← hw0]
        have := new_0 ((W.alloc (Obj.cells #[.int .i64 r.op, .string (tx r.name), .slice ao n cap] 25)).alloc (Obj.cells #[.int .i64 0, .string ⟨#[]⟩, .slice none 0 0, .bool false, .bool false] 76)) (Obj.cells #[.int .i64 r.op, .string (tx r.name), .slice none 0 0, .bool false, .bool false] 76)
        rw [World.size_alloc, World.size_alloc] at this
        exact this
      · rw [← hw0]
        exact (((Below.refl _ _).alloc (Nat.le_refl _) _).alloc (by simp) _).alloc (by simp; omega) _
    obtain ⟨hs0, hres, hbx0, hb0⟩ := hst
    have HB0 := hid hb0
    have HRES := hid hres
    have HI0 := hid (show OfI W w0 w0 r 0 [] (.slice none 0 0) from ⟨hbx0, RowS.nil _ _, rfl, Below.refl _ _⟩)
    clear hw0 hres hbx0 hb0
    go_loopw [14] (fun i wr => ∃ j : Nat, j ≤ n ∧ i = .int .i64 j ∧ Hid (∃ ps vk, OfI W w0 wr r j ps vk)) (fun i _ => n - (intOf i).toNat)
    case atStart => exact ⟨0, Nat.zero_le _, rfl, _, _, HI0.out⟩
    case round =>
      obtain ⟨j, hj, rfl, HJ⟩ := hrel
      obtain ⟨ps, vk, hI⟩ := HJ.out
      have hpl : ps.length ≤ j := by
        have := congrArg List.length hI.eq
        rw [List.length_map, List.length_map, List.length_take] at this
        omega
      obtain ⟨m, hm⟩ : ∃ m, m = ps.length := ⟨_, rfl⟩
      have HM := hid hm
      rw [← hm] at hpl
      obtain ⟨ka, kc, hvk⟩ := own_form hI.row.own
      rw [← hm] at hvk
      subst hvk
      have HII := hid hI
      have hwl := (Array.getElem?_eq_some_iff.1 hI.box).1
      have hbw : Below W.heap.size W wr := HB0.out.trans (hI.low.mono (by omega))
      have HBW := hid hbw
      clear hm hI HJ
      by_cases hlt : j < n
      · obtain ⟨k, hk⟩ : ∃ k, r.kids[j]? = some k := ⟨r.kids[j]'(by rw [← HN.out]; exact hlt), List.getElem?_eq_getElem _⟩
        obtain ⟨g, o, rfl, hg, hcell⟩ : ∃ g o, ao = some ⟨g, o, none⟩ ∧ g < W.heap.size ∧ ∀ (i : Nat) (k : Rx), r.kids[i]? = some k → ∃ u un uc, W.cell? ⟨g, o + i * 3, none⟩ = some (.int .i64 k.op) ∧ W.cell? ⟨g, o + i * 3 + 1, none⟩ = some (.string (tx k.name)) ∧ W.cell? ⟨g, o + i * 3 + 2, none⟩ = some (.slice u un uc) ∧ un = k.kids.length ∧ RxS W (.slice u un uc) k.kids := by
          rcases HAT.out with e | h
          · rw [e] at hk; simp at hk
          · exact h
        obtain ⟨u, un, uc, a0, a1, a2, -, hr⟩ := hcell j k hk
        have k0 := (hbw.cell (p := ⟨g, o + j * 3, none⟩) (by exact hg)).trans a0
        have k1 := (hbw.cell (p := ⟨g, o + j * 3 + 1, none⟩) (by exact hg)).trans a1
        have k2 := (hbw.cell (p := ⟨g, o + j * 3 + 2, none⟩) (by exact hg)).trans a2
        have HC := hid (HIH.out k (List.mem_of_getElem? hk) _ W hr)
        have hkI : (j : Int) < (n : Int) := by omega
        have hk0 : (0 : Int) ≤ (j : Int) := by omega
        have HTK := hid (show r.kids.take (j + 1) = r.kids.take j ++ [k] by rw [List.take_add_one, hk]; rfl)
        clear hk a0 a1 a2 hr hcell
        go_upto_region 5 with fail
        generalize hX : wr.alloc (Obj.cells #[.int .i64 k.op, .string (tx k.name), .slice u un uc] 25) = X
        have hsX : X.heap.size = wr.heap.size + 1 := by rw [← hX]; simp
        have hbX : Below wr.heap.size wr X := by rw [← hX]; exact (Below.refl _ _).alloc (Nat.le_refl _) _
        have hkX : X.heap[wr.heap.size]? = some (.cells #[.int .i64 k.op, .string (tx k.name), .slice u un uc] 25 (0, 0)) := by rw [← hX]; exact new_0 _ _
        have HIX := hid (HII.out.below hbX)
        have HBWX := hid (below_2x hbw hbX)
        clear hX
        have x0 : X.cell? ⟨wr.heap.size, 0, none⟩ = some (.int .i64 k.op) := by rw [cell_at hkX]; rfl
        have x1 : X.cell? ⟨wr.heap.size, 1, none⟩ = some (.string (tx k.name)) := by rw [cell_at hkX]; rfl
        have x2 : X.cell? ⟨wr.heap.size, 2, none⟩ = some (.slice u un uc) := by rw [cell_at hkX]; rfl
        have x0' : ∀ o, (X.alloc o).cell? ⟨wr.heap.size, 0, none⟩ = some (.int .i64 k.op) := fun o => by rw [cell_at (new_old _ o hkX)]; rfl
        have x1' : ∀ o, (X.alloc o).cell? ⟨wr.heap.size, 1, none⟩ = some (.string (tx k.name)) := fun o => by rw [cell_at (new_old _ o hkX)]; rfl
        have x2' : ∀ o, (X.alloc o).cell? ⟨wr.heap.size, 2, none⟩ = some (.slice u un uc) := fun o => by rw [cell_at (new_old _ o hkX)]; rfl
        have hsbX := (Array.getElem?_eq_some_iff.1 HIX.out.box).1
        have HSB := hid (fun (Y : World) (hb : Below X.heap.size X Y) => (by
          rw [cell_at ((hb.block _ hsbX).trans HIX.out.box)]; rfl : Y.cell? ⟨W.heap.size + 1 + 1, 2, none⟩ = some (.slice ka m kc)))
        have s2 := HSB.out X (Below.refl _ _)
        have s2' : ∀ o, (X.alloc o).cell? ⟨W.heap.size + 1 + 1, 2, none⟩ = some (.slice ka m kc) := fun o => HSB.out _ ((Below.refl _ _).alloc (Nat.le_refl _) o)
        have HJX := hid (fun (Y : World) (hb : Below X.heap.size X Y) => (by
          refine (HC.out Y (below_2x HBWX.out hb)).mono ?_
          rintro e w2 ⟨u2, n2, c2, bs, rfl, h1, h2, h3⟩
          have hbw2 := below_2x hb h3.out
          exact ⟨u2, n2, c2, bs, rfl, HSB.out _ hbw2, fun o => HSB.out _ (hbw2.alloc hbw2.size o), h1, h2, h3⟩ : Calls Tryz.prog 40 #[.agg #[.int .i64 k.op, .string (tx k.name), .slice u un uc]] Y fun e w2 => ∃ u2 n2 c2 bs, e = .returned (.agg #[.int .i64 k.op, .string (tx k.name), .slice u2 n2 c2, .bool (Sp.of k).em, .bool false]) ∧ w2.cell? ⟨W.heap.size + 1 + 1, 2, none⟩ = some (.slice ka m kc) ∧ (∀ o, (w2.alloc o).cell? ⟨W.heap.size + 1 + 1, 2, none⟩ = some (.slice ka m kc)) ∧ Hid (SpS w2 (.slice u2 n2 c2) (Sp.of k).kids bs) ∧ Hid (∀ x ∈ bs, Y.heap.size ≤ x) ∧ Hid (Below Y.heap.size Y w2)))
        have HRO := hid (fun (Y : World) (hb : Below X.heap.size X Y) => (by
          have h2 := (HIX.out.row.below hb).own
          rw [← HM.out] at h2
          exact h2 : Y.ownsRow (W.heap.size + 1 + 1 + 1) 76 5 (.slice ka m kc) m (flatS ps)))
        have HD3 := hid (fun (Y w2 Q w3 : World) (u2 : Option Addr) (n2 c2 g3 cap3 : Nat) (bs : List Nat) (hb : Below X.heap.size X Y) (hS : SpS w2 (.slice u2 n2 c2) (Sp.of k).kids bs) (hL : ∀ x ∈ bs, Y.heap.size ≤ x) (hb2 : Below Y.heap.size Y w2) (hb3 : Below w2.heap.size w2 Q) (hown : w3.ownsRow (W.heap.size + 1 + 1 + 1) 76 5 (.slice (some ⟨g3, 0, none⟩) (m + 1) cap3) (m + 1) (flatS ps ++ [.int .i64 0, .string (tx []), .slice none 0 0, .bool false, .bool false])) (hgr : Q.grownBy w3 (Value.slice ka m kc).ownBlock) (hat : (Value.slice ka m kc).ownBlock = some g3 ∨ g3 = Q.heap.size) => (by
          have hbQ := below_2x (below_2x hb hb2) hb3
          have e1 := hb.size
          have e2 := hb2.size
          have e3 := hb3.size
          have e4 := hgr.size
          have hvl : ∀ x, (Value.slice ka m kc).ownBlock = some x → x < X.heap.size := fun x hx => ((HRO.out X (Below.refl _ _)).lt x hx).2
          refine ⟨by omega, hgr.os.trans hbQ.os, hgr.tape.trans hbQ.tape, hgr.output.trans hbQ.output, fun x hx hv => ?_, ?_, fun x hx => by have := hL x hx; omega, hown, ?_⟩
          · rw [hgr.block x (by omega) (fun e => hv e.symm), hbQ.block x hx]
          · refine hS.on fun x hx => ?_
            have h1 := hL x hx
            have h2 := hS.lt x hx
            rw [hgr.block x (by omega) (fun e => by have := hvl x e.symm; omega), hb3.block x h2]
          · rcases hat with e | e
            · exact Or.inl e
            · exact Or.inr ⟨by omega, fun hm => by have := hS.lt g3 hm; omega⟩ : Of3 (W.heap.size + 1 + 1 + 1) X w3 (.slice ka m kc) (Sp.of k) (.slice u2 n2 c2) bs (flatS ps) m g3 cap3))
        have HQ := hid (fun (w3 : World) (u2 : Option Addr) (n2 c2 g3 cap3 : Nat) (bs : List Nat) (hd : Of3 (W.heap.size + 1 + 1 + 1) X w3 (.slice ka m kc) (Sp.of k) (.slice u2 n2 c2) bs (flatS ps) m g3 cap3) => (by
          have hvl : ∀ x, (Value.slice ka m kc).ownBlock = some x → W.heap.size + 1 + 1 + 1 ≤ x := fun x hx => ((HRO.out X (Below.refl _ _)).lt x hx).1
          have hbx := (hd.rest (W.heap.size + 1 + 1) hsbX (fun e => by have := hvl _ e; omega)).trans HIX.out.box
          have hl : (flatS ps).length = m * 5 := by rw [flatS_len, HM.out]
          obtain ⟨g', c', e, _, _, hc⟩ := ownX_form hd.row (by omega)
          cases e
          have hg3 : ¬ g3 = W.heap.size + 1 + 1 := by
            rcases hd.at_ with e | e
            · have := hvl _ e; omega
            · omega
          refine ⟨hbx, ⟨by rw [cell_at hbx]; rfl, free_of hbx⟩, ⟨hc _ _ ?_, hc _ _ ?_, hc _ _ ?_, hc _ _ ?_, hc _ _ ?_⟩, ⟨hd.row.frozenAt _, hd.row.frozenAt _, hd.row.frozenAt _, hd.row.frozenAt _, hd.row.frozenAt _⟩, hg3, fun e => hg3 e.symm⟩
          · rw [List.getElem?_append_right (by omega), hl]; simp
          · rw [List.getElem?_append_right (by omega), hl]; simp
          · rw [List.getElem?_append_right (by omega), hl]; simp
          · rw [List.getElem?_append_right (by omega), hl]; simp
          · rw [List.getElem?_append_right (by omega), hl]; simp : w3.heap[W.heap.size + 1 + 1]? = some (.cells #[.int .i64 r.op, .string (tx r.name), .slice ka m kc, .bool false, .bool false] 76 (0, 0)) ∧ (w3.cell? ⟨W.heap.size + 1 + 1, 2, none⟩ = some (.slice ka m kc) ∧ w3.frozen? ⟨W.heap.size + 1 + 1, 2, none⟩ = false) ∧ (w3.cell? ⟨g3, m * 5, none⟩ = some (.int .i64 0) ∧ w3.cell? ⟨g3, m * 5 + 1, none⟩ = some (.string (tx [])) ∧ w3.cell? ⟨g3, m * 5 + 2, none⟩ = some (.slice none 0 0) ∧ w3.cell? ⟨g3, m * 5 + 3, none⟩ = some (.bool false) ∧ w3.cell? ⟨g3, m * 5 + 4, none⟩ = some (.bool false)) ∧ (w3.frozen? ⟨g3, m * 5, none⟩ = false ∧ w3.frozen? ⟨g3, m * 5 + 1, none⟩ = false ∧ w3.frozen? ⟨g3, m * 5 + 2, none⟩ = false ∧ w3.frozen? ⟨g3, m * 5 + 3, none⟩ = false ∧ w3.frozen? ⟨g3, m * 5 + 4, none⟩ = false) ∧ ¬ g3 = W.heap.size + 1 + 1 ∧ ¬ W.heap.size + 1 + 1 = g3))
        have hnI : (m : Int) < (m : Int) + 1 := by omega
        have hnI0 : (0 : Int) ≤ (m : Int) := by omega
        have HBX := hid (fun (Y : World) (o : Obj) (hb : Below X.heap.size X Y) => (by have := hb.size; simp only [World.size_alloc]; omega : (W.heap.size + 1 + 1 + 1) ≤ (Y.alloc o).heap.size))
        have HBY := hid (fun (Y : World) (hb : Below X.heap.size X Y) => (by have := hb.size; omega : (W.heap.size + 1 + 1 + 1) ≤ Y.heap.size))
        have HZB := hid (fun (w2 : World) (hb : Below (X.alloc (.cells #[.int .i64 0, .string (tx []), .slice none 0 0, .bool false, .bool false] 76)).drew.heap.size (X.alloc (.cells #[.int .i64 0, .string (tx []), .slice none 0 0, .bool false, .bool false] 76)).drew w2) => (by
          intro j u hj
          have h0 := new_cells X #[.int .i64 0, .string (tx []), .slice none 0 0, .bool false, .bool false] 76 _ rfl j u hj
          have e : (⟨X.heap.size, 0, none⟩ : Addr).add j = ⟨X.heap.size, j, none⟩ := by unfold Addr.add; split <;> simp_all
          rw [e] at h0 ⊢
          rw [hb.cell (by show X.heap.size < (X.alloc _).heap.size; simp)]
          exact h0 : ∀ j u, ([.int .i64 0, .string (tx []), .slice none 0 0, .bool false, .bool false] : List Value)[j]? = some u → w2.cell? ((⟨X.heap.size, 0, none⟩ : Addr).add j) = some u))
        have BD := hid (show Below X.heap.size X X.drew from (Below.refl _ _).drew)
        have BE := hid (fun (o : Obj) => (show Below X.heap.size X (X.alloc o).drew from ((Below.refl _ _).alloc (Nat.le_refl _) o).drew))
        have HPL := hid (show (flatS ps).length = m * 5 by rw [flatS_len, HM.out])
        clear hkX hbX
        have HFIN := hid (fun (w3 : World) (u2 : Option Addr) (n2 c2 g3 cap3 : Nat) (bs : List Nat) (hd : Of3 (W.heap.size + 1 + 1 + 1) X w3 (.slice ka m kc) (Sp.of k) (.slice u2 n2 c2) bs (flatS ps) m g3 cap3) (wc : World) (hst : Sto5 (W.heap.size + 1 + 1 + 1) w3 wc (W.heap.size + 1 + 1) g3 m cap3 #[.int .i64 r.op, .string (tx r.name), .slice ka m kc, .bool false, .bool false] (flatS ps) (.slice (some ⟨g3, 0, none⟩) (m + 1) cap3) (.int .i64 k.op) (.string (tx k.name)) (.slice u2 n2 c2) (.bool (Sp.of k).em) (.bool false)) => (by
          refine ⟨ps ++ [(Sp.of k, .slice u2 n2 c2, bs)], .slice (some ⟨g3, 0, none⟩) (m + 1) cap3, ?_, ?_, ?_, ?_⟩
          · rw [hst.box]; rfl
          · refine HIX.out.row.more HM.out (by omega) (by omega) hd hst ?_
            rw [Sp.of_eq]; rfl
          · rw [List.map_append, HIX.out.eq, HTK.out]; simp
          · have hvl : ∀ x, (Value.slice ka m kc).ownBlock = some x → W.heap.size + 1 + 1 + 1 ≤ x := fun x hx => ((HRO.out X (Below.refl _ _)).lt x hx).1
            refine HIX.out.low.trans ⟨hst.os.trans hd.os, hst.tape.trans hd.tape, hst.output.trans hd.output, by rw [hst.size]; exact hd.size, fun x hx => ?_⟩
            rw [hst.rest x (by omega) (by
              rcases hd.at_ with e | e
              · have := hvl _ e; omega
              · omega), hd.rest x (by omega) (fun e => by have := hvl _ e; omega)] : ∃ ps vk, OfI W w0 wc r (j + 1) ps vk))
        clear hsX
        go_region_law (first
          | (go_simp; go_at_call 40; refine (HJX.out _ BD.out).mono ?_; rintro en w2 ⟨u2, n2, c2, bs, rfl, m0, m3, X2, Y2, BJ⟩) | (go_simp; go_at_call 40; refine (HJX.out _ (BE.out _)).mono ?_; rintro en w2 ⟨u2, n2, c2, bs, rfl, m0, m3, X2, Y2, BJ⟩)
          | (refine step_append_lies _ ?h0 (.tmp 19) (.tmp 23) 74 ?h00 (W.heap.size + 1 + 1 + 1) 76 i0 (.agg #[.int .i64 0, .string (tx []), .slice none 0 0, .bool false, .bool false]) 5 56 Tryz.underlying74 HI.out HZ0.out HZ1.out HZ2.out ?h1 ?h2 (.slice ka m kc) m (flatS ps) ?h3 ?h4 ⟨w2.heap.size, 0, none⟩ 1 1 [.int .i64 0, .string (tx []), .slice none 0 0, .bool false, .bool false] ?h5 ?h6 ?h7 ?h8 ?h9 ?h10 ?h11 ?h12 _ (by rfl) ?_; (case h0 => rfl); (case h00 => rfl); (case h1 => rfl); (case h2 => decide); (case h3 => rfl); (case h4 => exact HRO.out _ ((below_2x BD.out BJ.out).alloc (below_2x BD.out BJ.out).size _)); (case h5 => rfl); (case h6 => rfl); (case h7 => exact new_cells w2 #[.int .i64 0, .string (tx []), .slice none 0 0, .bool false, .bool false] _ _ rfl); (case h8 => simp [Value.oneCell']); (case h9 => omega); (case h10 => (unfold maxLen; omega)); (case h11 => omega); (case h12 => exact HBX.out _ _ (below_2x BD.out BJ.out)); intro g3 cap3 w3 hown3 hgrow3 hat3 hlt3; have D3 := hid (HD3.out _ _ _ _ _ _ _ _ _ _ BD.out X2.out Y2.out BJ.out ((Below.refl _ _).alloc (Nat.le_refl _) _) hown3 hgrow3 hat3); clear hown3 hgrow3 hat3; have hQ := HQ.out _ _ _ _ _ _ _ D3.out; have Q0 := hid hQ.1; have q1 := hQ.2.1.1; have q2 := hQ.2.1.2; have q3 := hQ.2.2.1.1; have q4 := hQ.2.2.1.2.1; have q5 := hQ.2.2.1.2.2.1; have q6 := hQ.2.2.1.2.2.2.1; have q7 := hQ.2.2.1.2.2.2.2; have q8 := hQ.2.2.2.1.1; have q9 := hQ.2.2.2.1.2.1; have q10 := hQ.2.2.2.1.2.2.1; have q11 := hQ.2.2.2.1.2.2.2.1; have q12 := hQ.2.2.2.1.2.2.2.2; have q13 := hQ.2.2.2.2.1; have q14 := hQ.2.2.2.2.2; clear hQ)
          | (refine step_append_lies _ ?h0 (.tmp 19) (.tmp 23) 74 ?h00 (W.heap.size + 1 + 1 + 1) 76 i0 (.agg #[.int .i64 0, .string (tx []), .slice none 0 0, .bool false, .bool false]) 5 56 Tryz.underlying74 HI.out HZ0.out HZ1.out HZ2.out ?h1 ?h2 (.slice ka m kc) m (flatS ps) ?h3 ?h4 ⟨X.heap.size, 0, none⟩ 1 1 [.int .i64 0, .string (tx []), .slice none 0 0, .bool false, .bool false] ?h5 ?h6 ?h7 ?h8 ?h9 ?h10 ?h11 ?h12 _ (by rfl) ?_; (case h0 => rfl); (case h00 => rfl); (case h1 => rfl); (case h2 => decide); (case h3 => rfl); (case h4 => exact HRO.out _ (below_2x (BE.out _) BJ.out)); (case h5 => rfl); (case h6 => rfl); (case h7 => exact HZB.out _ BJ.out); (case h8 => simp [Value.oneCell']); (case h9 => omega); (case h10 => (unfold maxLen; omega)); (case h11 => omega); (case h12 => exact HBY.out _ (below_2x (BE.out _) BJ.out)); intro g3 cap3 w3 hown3 hgrow3 hat3 hlt3; have D3 := hid (HD3.out _ _ _ _ _ _ _ _ _ _ (BE.out _) X2.out Y2.out BJ.out (Below.refl _ _) hown3 hgrow3 hat3); clear hown3 hgrow3 hat3; have hQ := HQ.out _ _ _ _ _ _ _ D3.out; have Q0 := hid hQ.1; have q1 := hQ.2.1.1; have q2 := hQ.2.1.2; have q3 := hQ.2.2.1.1; have q4 := hQ.2.2.1.2.1; have q5 := hQ.2.2.1.2.2.1; have q6 := hQ.2.2.1.2.2.2.1; have q7 := hQ.2.2.1.2.2.2.2; have q8 := hQ.2.2.2.1.1; have q9 := hQ.2.2.2.1.2.1; have q10 := hQ.2.2.2.1.2.2.1; have q11 := hQ.2.2.2.1.2.2.2.1; have q12 := hQ.2.2.2.1.2.2.2.2; have q13 := hQ.2.2.2.2.1; have q14 := hQ.2.2.2.2.2; clear hQ))
        all_goals (
          have F1 := hid (HFIN.out _ _ _ _ _ _ _ D3.out _ (sto5_a (v' := .slice (some ⟨g3, 0, none⟩) (m + 1) cap3) (x0 := .int .i64 k.op) (x1 := .string (tx k.name)) (x2 := .slice u2 n2 c2) (x3 := .bool (Sp.of k).em) (x4 := .bool false) D3.out.row HPL.out Q0.out q13))
          have F2 := hid (HFIN.out _ _ _ _ _ _ _ D3.out _ (sto5_b (v' := .slice (some ⟨g3, 0, none⟩) (m + 1) cap3) (x0 := .int .i64 k.op) (x1 := .string (tx k.name)) (x2 := .slice u2 n2 c2) (x3 := .bool (Sp.of k).em) (x4 := .bool false) D3.out.row HPL.out Q0.out q13))
          clear D3 Q0
          go_wp2
          go_roundw
          case rel =>
            refine ⟨j + 1, by omega, by go_num, ?_⟩
            first
              | with_reducible exact F1
              | with_reducible exact F2
          case measure => simp [intOf]; omega)
      · have hkI : ¬ ((j : Int) < (n : Int)) := by omega
        have hjl : r.kids.length ≤ j := by have := HN.out; omega
        obtain ⟨bs, hbs, hlow⟩ := HII.out.row.sps
        have heq := HII.out.eq
        rw [List.take_of_length_le hjl] at heq
        rw [heq] at hbs
        have HBS := hid hbs
        have HLOW := hid hlow
        have HTN := hid (by
          have := takesNone_any (o := 0) (s := .mk r.op r.name (r.kids.map Sp.of) false false) HII.out.box ⟨rfl, rfl, rfl, rfl, rfl⟩ hbs (by show (r.kids.map Sp.of).length ≤ _; rw [List.length_map]; have := HN.out; omega)
          exact this : Calls Tryz.prog 63 #[.pointer (some ⟨W.heap.size + 1 + 1, 0, none⟩)] wr fun e w' => e = .returned (.bool (noneS r.op (r.kids.map Sp.of))) ∧ Below wr.heap.size wr w')
        have HEM := hid (show (Sp.of r).em = noneS r.op (r.kids.map Sp.of) ∧ (Sp.of r).kids = r.kids.map Sp.of by rw [Sp.of_eq]; exact ⟨rfl, rfl⟩)
        obtain ⟨em, hem⟩ : ∃ em, em = noneS r.op (r.kids.map Sp.of) := ⟨_, rfl⟩
        rw [← hem] at HTN HEM
        have HRES2 := hid ((HII.out.low.block (W.heap.size + 1) (by omega)).trans HRES.out)
        clear hlt hbs hlow heq hem
        go_wp2_with fail
        refine HTN.out.mono ?_
        rintro en w2 ⟨rfl, hb2⟩
        have hbx := (hb2.block _ hwl).trans HII.out.box
        have hrs := (hb2.block (W.heap.size + 1) (by omega)).trans HRES2.out
        have b0 : w2.cell? ⟨W.heap.size + 1 + 1, 0, none⟩ = some (.int .i64 r.op) := by rw [cell_at hbx]; rfl
        have b1 : w2.cell? ⟨W.heap.size + 1 + 1, 1, none⟩ = some (.string (tx r.name)) := by rw [cell_at hbx]; rfl
        have b2 : w2.cell? ⟨W.heap.size + 1 + 1, 2, none⟩ = some (.slice ka m kc) := by rw [cell_at hbx]; rfl
        have b3 : w2.cell? ⟨W.heap.size + 1 + 1, 3, none⟩ = some (.bool false) := by rw [cell_at hbx]; rfl
        have b4 : w2.cell? ⟨W.heap.size + 1 + 1, 4, none⟩ = some (.bool false) := by rw [cell_at hbx]; rfl
        have bf : w2.frozen? ⟨W.heap.size + 1 + 1, 3, none⟩ = false := free_of hbx
        have c0 : w2.cell? ⟨W.heap.size + 1, 0, none⟩ = some (.int .i64 0) := by rw [cell_at hrs]; rfl
        have c1 : w2.cell? ⟨W.heap.size + 1, 1, none⟩ = some (.string ⟨#[]⟩) := by rw [cell_at hrs]; rfl
        have c2 : w2.cell? ⟨W.heap.size + 1, 2, none⟩ = some (.slice none 0 0) := by rw [cell_at hrs]; rfl
        have c3 : w2.cell? ⟨W.heap.size + 1, 3, none⟩ = some (.bool false) := by rw [cell_at hrs]; rfl
        have c4 : w2.cell? ⟨W.heap.size + 1, 4, none⟩ = some (.bool false) := by rw [cell_at hrs]; rfl
        have f0 : w2.frozen? ⟨W.heap.size + 1, 0, none⟩ = false := free_of hrs
        have f1 : w2.frozen? ⟨W.heap.size + 1, 1, none⟩ = false := free_of hrs
        have f2 : w2.frozen? ⟨W.heap.size + 1, 2, none⟩ = false := free_of hrs
        have f3 : w2.frozen? ⟨W.heap.size + 1, 3, none⟩ = false := free_of hrs
        have f4 : w2.frozen? ⟨W.heap.size + 1, 4, none⟩ = false := free_of hrs
        have B2 := hid hb2
        have B2W := hid (below_2x HBW.out hb2)
        clear hb2 hbx hrs
        go_wp2
        refine bodyPost_ret (v := .agg #[.int .i64 r.op, .string (tx r.name), .slice ka m kc, .bool em, .bool false]) (by simp [results, Tryz.results40, go_sem, c0, c1, c2, c3, c4]) rfl ⟨ka, m, kc, bs, by rw [HEM.out.1], ?_, ?_, ?_⟩
        · rw [HEM.out.2]
          refine hid (HBS.out.on fun x hx => ?_)
          have h1 := HLOW.out x hx
          rw [Below.heap_setCell _ _ _ _ (by show x ≠ W.heap.size + 1; omega), Below.heap_setCell _ _ _ _ (by show x ≠ W.heap.size + 1; omega), Below.heap_setCell _ _ _ _ (by show x ≠ W.heap.size + 1; omega), Below.heap_setCell _ _ _ _ (by show x ≠ W.heap.size + 1; omega), Below.heap_setCell _ _ _ _ (by show x ≠ W.heap.size + 1; omega), Below.heap_setCell _ _ _ _ (by show x ≠ W.heap.size + 1 + 1; omega), B2.out.block x (HBS.out.lt x hx)]
        · exact hid fun x hx => by have := HLOW.out x hx; omega
        · exact hid ((((((B2W.out.setCell (by show W.heap.size ≤ W.heap.size + 1 + 1; omega) _).setCell (by show W.heap.size ≤ W.heap.size + 1; omega) _).setCell (by show W.heap.size ≤ W.heap.size + 1; omega) _).setCell (by show W.heap.size ≤ W.heap.size + 1; omega) _).setCell (by show W.heap.size ≤ W.heap.size + 1; omega) _).setCell (by show W.heap.size ≤ W.heap.size + 1; omega) _)
end Go.Proofs.YtagppgncanimaaaGreatDoor
namespace Go.Proofs.YtagppgncanimaaaGreatDoor
open Go.RowKit

/-- A place that was found, or none. -/
def IdxP (i : Int) (b : Bool) : Prop := decide (0 ≤ i) = b
/-- Is a device one of a node without kids? -/
def fitB (nm : List UInt8) (cls : List (List UInt8)) (op : Int) (t : List UInt8) : Bool := if op = 1 then nm == t else if op = 2 then cls.contains t else true

set_option maxRecDepth 20000 in
set_option maxHeartbeats 2000000 in
theorem sIndex_any {w : World} {v : Value} {cls : List (List UInt8)} {t : List UInt8} (h : Txs w v cls) (hn : cls.length ≤ maxLen) :
    Calls Tryz.prog 129 #[v, .string (tx t)] w fun e w' => ∃ i : Int, e = .returned (.int .i64 i) ∧ IdxP i (cls.contains t) ∧ w' = w := by
  obtain ⟨ao, cap, rfl, hr⟩ := h
  obtain ⟨n, hnn⟩ : ∃ n, n = cls.length := ⟨_, rfl⟩
  have HN := hid hnn
  rw [← hnn] at hn ⊢
  unfold maxLen at hn
  have HR := hid hr
  obtain ⟨bb, hbb⟩ : ∃ bb, bb = cls.contains t := ⟨_, rfl⟩
  have HBB := hid hbb
  rw [← hbb]
  clear hr hnn hbb
  go_enter Tryz.func129, Tryz.ntmps129
  go_wp2_with fail
  go_loopw [8] (fun i wr => ∃ j : Nat, j ≤ n ∧ i = .int .i64 j ∧ Hid ((∀ i x, i < j → cls[i]? = some x → ¬ t = x) ∧ wr = w)) (fun i _ => n - (intOf i).toNat)
  case atStart => exact ⟨0, Nat.zero_le _, rfl, fun i x hi => absurd hi (Nat.not_lt_zero i), rfl⟩
  case round =>
    obtain ⟨j, hj, rfl, HJ⟩ := hrel
    obtain ⟨hJ1, rfl⟩ := HJ.out
    have HJ1 := hid hJ1
    clear hJ1
    by_cases hlt : j < n
    · obtain ⟨x, hx⟩ : ∃ x, cls[j]? = some x := ⟨cls[j]'(by rw [← HN.out]; exact hlt), List.getElem?_eq_getElem _⟩
      obtain ⟨g, o, rfl, hg, hcell⟩ : ∃ g o, ao = some ⟨g, o, none⟩ ∧ g < wr.heap.size ∧ ∀ i, i < cls.length → wr.cell? ⟨g, o + i, none⟩ = some (.string (tx (cls.getD i []))) := by
        rcases HR.out with e | h
        · rw [e] at hx; simp at hx
        · exact h
      have k0 := hcell j (by rw [← HN.out]; exact hlt)
      rw [List.getD_eq_getElem?_getD, hx] at k0
      simp only [Option.getD_some] at k0
      have HX := hid hx
      have hkI : (j : Int) < (n : Int) := by omega
      have hk0 : (0 : Int) ≤ (j : Int) := by omega
      clear hx hcell HJ
      by_cases e : t = x
      · subst e
        have HE := hid (show bb = true by
          rw [HBB.out, List.contains_iff_mem]; exact List.mem_of_getElem? HX.out)
        go_wp2
        go_ret
        exact ⟨j, rfl, by unfold IdxP; rw [HE.out, decide_eq_true (by omega)], rfl⟩
      · have e1 : (t == x) = false := by simpa using e
        have e2 : (x == t) = false := by rw [beq_eq_false_iff_ne]; exact fun h => e h.symm
        have HJ2 := hid (show ∀ i y, i < j + 1 → cls[i]? = some y → ¬ t = y from fun i y hi hy => by
          by_cases ej : i = j
          · subst ej
            rw [HX.out] at hy
            cases hy
            exact e
          · exact HJ1.out i y (by omega) hy)
        clear e
        go_wp2
        go_roundw
        case rel => exact ⟨j + 1, by omega, by go_num, HJ2.out, trivial⟩
        case measure => simp [intOf]; omega
    · have hkI : ¬ ((j : Int) < (n : Int)) := by omega
      have HE := hid (show bb = false by
        rw [HBB.out, Bool.eq_false_iff]
        intro h
        rw [List.contains_iff_mem] at h
        obtain ⟨i, hi⟩ := List.getElem?_of_mem h
        exact HJ1.out i t (by have := (List.getElem?_eq_some_iff.1 hi).1; have := HN.out; omega) hi rfl)
      clear hlt HJ
      go_wp2
      go_ret
      exact ⟨-1, rfl, by unfold IdxP; rw [HE.out]; rfl, rfl⟩

set_option maxRecDepth 20000 in
set_option maxHeartbeats 2000000 in
theorem sContains_any {w : World} {v : Value} {cls : List (List UInt8)} {t : List UInt8} (h : Txs w v cls) (hn : cls.length ≤ maxLen) :
    Calls Tryz.prog 99 #[v, .string (tx t)] w fun e w' => e = .returned (.bool (cls.contains t)) ∧ w' = w := by
  have HI := hid (sIndex_any (t := t) h hn)
  obtain ⟨ao, cap, rfl, -⟩ := h
  go_enter Tryz.func99, Tryz.ntmps99
  go_wp2_with fail
  refine HI.out.mono ?_
  rintro e w2 ⟨i, rfl, hi, hw⟩
  have HE := hid (show decide (0 ≤ i) = cls.contains t from hi)
  have HW := hid hw
  clear hi hw
  go_wp2
  go_ret
  exact ⟨by rw [← HE.out]; rfl, HW.out⟩

set_option maxRecDepth 20000 in
set_option maxHeartbeats 2000000 in
theorem fits_any {w : World} {g o : Nat} {cs : Array Value} {s : Sp} {v vc : Value} {nm : List UInt8} {cls : List (List UInt8)} (hg : w.heap[g]? = some (.cells cs 76 (0, 0))) (hs : SpC cs o s v) (hT : Txs w vc cls) (hn : cls.length ≤ maxLen) :
    Calls Tryz.prog 66 #[.pointer (some ⟨g, o, none⟩), .agg #[.string (tx nm), vc]] w fun e w' => e = .returned (.bool (fitB nm cls s.op s.name)) ∧ Below w.heap.size w w' := by
  have HC := hid (fun (W : World) (hb : Below w.heap.size w W) => sContains_any (t := s.name) (hT.below hb) hn)
  obtain ⟨ao, cap, rfl, -⟩ := hT
  have hgl := (Array.getElem?_eq_some_iff.1 hg).1
  obtain ⟨a0, a1, a2, a3, a4⟩ := hs
  have c0 : w.cell? ⟨g, o, none⟩ = some (.int .i64 s.op) := by rw [cell_at hg]; exact a0
  have c1 : w.cell? ⟨g, o + 1, none⟩ = some (.string (tx s.name)) := by rw [cell_at hg]; exact a1
  have d0 : ∀ ob, (w.alloc ob).cell? ⟨g, o, none⟩ = some (.int .i64 s.op) := fun ob => (((Below.refl w.heap.size w).alloc (Nat.le_refl _) ob).cell (by exact hgl)).trans c0
  have d1 : ∀ ob, (w.alloc ob).cell? ⟨g, o + 1, none⟩ = some (.string (tx s.name)) := fun ob => (((Below.refl w.heap.size w).alloc (Nat.le_refl _) ob).cell (by exact hgl)).trans c1
  have HB := hid (fun (ob : Obj) => ((Below.refl w.heap.size w).alloc (Nat.le_refl _) ob))
  obtain ⟨n, hnn⟩ : ∃ n, n = cls.length := ⟨_, rfl⟩
  rw [← hnn] at HC ⊢
  clear hg a0 a1 a2 a3 a4 hn hnn
  by_cases o1 : s.op = 1
  · have HE := hid (show fitB nm cls s.op s.name = (nm == s.name) by unfold fitB; rw [if_pos o1])
    rw [HE.out]
    rw [o1] at c0 d0
    go_enter Tryz.func66, Tryz.ntmps66
    go_wp2_with fail
    go_quiet (fail)
    go_wp2
    go_ret
    exact ⟨by simp, below_drewN (HB.out _)⟩
  · by_cases o2 : s.op = 2
    · have HE := hid (show fitB nm cls s.op s.name = cls.contains s.name by unfold fitB; rw [if_neg o1, if_pos o2])
      rw [HE.out]
      rw [o2] at c0 d0
      go_enter Tryz.func66, Tryz.ntmps66
      have HD := hid (fun (ob : Obj) => (by
        refine (HC.out _ (HB.out ob).drew).mono ?_
        rintro e w' ⟨rfl, rfl⟩
        exact ⟨rfl, rfl⟩ : Calls Tryz.prog 99 #[.slice ao n cap, .string (tx s.name)] (w.alloc ob).drew fun e w' => e = .returned (.bool (cls.contains s.name)) ∧ (w.alloc ob).drew = w'))
      have S1 : (w.alloc (.cells #[.string (tx nm), .slice ao n cap] 66)).drew.cell? ⟨g, o + 1, none⟩ = some (.string (tx s.name)) ∧ (w.alloc (.cells #[.string (tx nm), .slice ao n cap] 66)).drew.cell? ⟨w.heap.size, 1, none⟩ = some (.slice ao n cap) := ⟨d1 _, by show (w.alloc _).cell? _ = _; rw [cell_at (new_0 _ _)]; rfl⟩
      go_wp2_with fail
      go_region_held3 (fun w' => w'.cell? ⟨g, o + 1, none⟩ = some (.string (tx s.name)) ∧ w'.cell? ⟨w.heap.size, 1, none⟩ = some (.slice ao n cap)) (first | (go_keep; done) | exact S1) (first | (go_at_call 99; refine (HD.out _).mono ?_; rintro en w1 ⟨rfl, rfl⟩))
      go_wp2
      go_ret
      exact ⟨by simp, (HB.out _).drew⟩
    · have HE := hid (show fitB nm cls s.op s.name = true by unfold fitB; rw [if_neg o1, if_neg o2])
      rw [HE.out]
      have p1 : (s.op == 1) = false := by simpa using o1
      have p2 : (s.op == 2) = false := by simpa using o2
      go_enter Tryz.func66, Tryz.ntmps66
      go_wp2
      go_ret
      exact ⟨rfl, HB.out _⟩
end Go.Proofs.YtagppgncanimaaaGreatDoor
namespace Go.Proofs.YtagppgncanimaaaGreatDoor
open Go.RowKit

/-- What a call that takes a device leaves. -/
structure TkP (w w' : World) (g o : Nat) (cs : Array Value) (s : Sp) (v : Value) (bs : List Nat) : Prop where
  size : w.heap.size ≤ w'.heap.size
  os : w'.os = w.os
  tape : w'.tape = w.tape
  output : w'.output = w.output
  blk : w'.heap[g]? = some (.cells (cs.setIfInBounds (o + 4) (.bool s.en)) 76 (0, 0))
  kids : SpS w' v s.kids bs
  rest : ∀ k, k < w.heap.size → k ≠ g → k ∉ bs → w'.heap[k]? = w.heap[k]?
theorem TkP.below {w w' : World} {g o : Nat} {cs : Array Value} {s : Sp} {v : Value} {bs : List Nat} (h : TkP w w' g o cs s v bs) {B : Nat} (h1 : B ≤ g) (h2 : ∀ x ∈ bs, B ≤ x) (h3 : B ≤ w.heap.size) : Below B w w' :=
  ⟨h.os, h.tape, h.output, h.size, fun k hk => h.rest k (by omega) (by omega) (fun hm => by have := h2 k hm; omega)⟩
/-- take, at a spot wherever it lies. -/
def TakeC (nm : List UInt8) (vc : Value) (cls : List (List UInt8)) (k : Sp) : Prop :=
  ∀ (B : Nat) (w : World) (g o : Nat) (cs : Array Value) (v : Value) (bs : List Nat) (f : Bool), w.heap[g]? = some (.cells cs 76 (0, 0)) → SpC cs o k v → SpS w v k.kids bs → g ∉ bs → (∀ x ∈ bs, B ≤ x) → B ≤ g → (∀ W, Below B w W → Txs W vc cls) →
    Calls Tryz.prog 41 #[.pointer (some ⟨g, o, none⟩), .agg #[.string (tx nm), vc], .bool f] w fun e w' => e = .returned (.tuple #[]) ∧ TkP w w' g o cs (k.take (fitB nm cls) f) v bs
/-- While the kids are gone through. -/
structure TkL (w wr : World) (g o : Nat) (cs : Array Value) (qs : List Sp) (e : Bool) (v : Value) (bs : List Nat) (ob : Obj) : Prop where
  size : w.heap.size + 1 ≤ wr.heap.size
  os : wr.os = w.os
  tape : wr.tape = w.tape
  output : wr.output = w.output
  box : wr.heap[w.heap.size]? = some ob
  blk : wr.heap[g]? = some (.cells (cs.setIfInBounds (o + 4) (.bool e)) 76 (0, 0))
  kids : SpS wr v qs bs
  rest : ∀ k, k < w.heap.size → k ≠ g → k ∉ bs → wr.heap[k]? = w.heap[k]?
theorem TkL.below {w w' : World} {g o : Nat} {cs : Array Value} {qs : List Sp} {e : Bool} {v : Value} {bs : List Nat} {ob : Obj} (h : TkL w w' g o cs qs e v bs ob) {B : Nat} (h1 : B ≤ g) (h2 : ∀ x ∈ bs, B ≤ x) (h3 : B ≤ w.heap.size) : Below B w w' :=
  ⟨h.os, h.tape, h.output, by have := h.size; omega, fun k hk => h.rest k (by omega) (by omega) (fun hm => by have := h2 k hm; omega)⟩
theorem set_twice (cs : Array Value) (i : Nat) (x y : Value) : (cs.setIfInBounds i x).setIfInBounds i y = cs.setIfInBounds i y := by
  apply Array.ext_getElem?
  intro j
  simp only [Array.getElem?_setIfInBounds, Array.size_setIfInBounds]
  split <;> rfl
theorem TkL.ends {w wr : World} {g o : Nat} {cs : Array Value} {qs : List Sp} {e : Bool} {v : Value} {bs : List Nat} {ob : Obj} (h : TkL w wr g o cs qs e v bs ob) (hg : g ∉ bs) (hgl : g < w.heap.size) (e' : Bool) : TkL w (wr.setCell ⟨g, o + 4, none⟩ (.bool e')) g o cs qs e' v bs ob := by
  refine ⟨by simpa using h.size, h.os, h.tape, h.output, ?_, ?_, ?_, fun k hk h1 h2 => ?_⟩
  · rw [Below.heap_setCell _ _ _ _ (by show w.heap.size ≠ g; omega)]; exact h.box
  · rw [heap_setCell_same wr g (o + 4) _ _ (.bool e') h.blk, set_twice]
  · exact h.kids.on fun k hk => Below.heap_setCell _ _ _ _ (by show k ≠ g; intro e; rw [e] at hk; exact hg hk)
  · rw [Below.heap_setCell _ _ _ _ (by exact h1)]; exact h.rest k hk h1 h2
theorem TkL.grow {w wr w' : World} {g o : Nat} {cs : Array Value} {qs : List Sp} {e : Bool} {v : Value} {bs : List Nat} {ob : Obj} (h : TkL w wr g o cs qs e v bs ob) (hb : Below wr.heap.size wr w') : TkL w w' g o cs qs e v bs ob := by
  have hs := h.size
  refine ⟨by have := hb.size; omega, hb.os.trans h.os, hb.tape.trans h.tape, hb.output.trans h.output, (hb.block _ (by omega)).trans h.box, (hb.block _ (Array.getElem?_eq_some_iff.1 h.blk).1).trans h.blk, h.kids.on fun k hk => hb.block k (h.kids.lt k hk), fun k hk h1 h2 => (hb.block k (by omega)).trans (h.rest k hk h1 h2)⟩
/-- A kid was gone through. -/
theorem TkL.next {w wr : World} {g o : Nat} {cs : Array Value} {qs : List Sp} {e : Bool} {v : Value} {bs : List Nat} {ob : Obj} {i : Nat} {k : Sp} (h : TkL w wr g o cs qs e v bs ob) (hg : g ∉ bs) (hgl : g < w.heap.size) (hbl : ∀ x ∈ bs, x < w.heap.size) (hi : qs[i]? = some k) :
    ∃ (g1 cap : Nat) (cs1 : Array Value) (vi : Value) (b : List Nat), v = .slice (some ⟨g1, 0, none⟩) qs.length cap ∧ wr.heap[g1]? = some (.cells cs1 76 (0, 0)) ∧ SpC cs1 (i * 5) k vi ∧ SpS wr vi k.kids b ∧ g1 ∉ b ∧ g1 ∈ bs ∧ (∀ x ∈ b, x ∈ bs) ∧ ∀ (w2 : World) (k' : Sp), k'.op = k.op → k'.name = k.name → k'.em = k.em → TkP wr w2 g1 (i * 5) cs1 k' vi b → TkL w w2 g o cs (qs.set i k') e v bs ob ∧ w2.cell? ⟨g1, i * 5 + 4, none⟩ = some (.bool k'.en) ∧ w2.cell? ⟨g1, i * 5 + 3, none⟩ = some (.bool k'.em) := by
  rcases h.kids.at with ⟨e0, _⟩ | ⟨g1, cap, vs, bss, cs1, hv, hbs, hgh, hl, hb, hc, hk, nd⟩
  · rw [e0] at hi; simp at hi
  · have hil := (List.getElem?_eq_some_iff.1 hi).1
    obtain ⟨vi, hvi⟩ : ∃ vi, vs[i]? = some vi := ⟨vs[i]'(by omega), List.getElem?_eq_getElem _⟩
    obtain ⟨b, hbi⟩ : ∃ b, bss[i]? = some b := ⟨bss[i]'(by omega), List.getElem?_eq_getElem _⟩
    rw [hbs] at nd
    have hg1b : g1 ∉ b := fun hm => (List.nodup_cons.1 nd).1 (List.mem_flatten.2 ⟨b, List.mem_of_getElem? hbi, hm⟩)
    have hsub : ∀ x ∈ b, x ∈ bs := fun x hx => by rw [hbs]; exact List.mem_cons_of_mem _ (List.mem_flatten.2 ⟨b, List.mem_of_getElem? hbi, hx⟩)
    have hg1 : g1 ∈ bs := by rw [hbs]; simp
    have hgg : g ≠ g1 := fun e => hg (by rw [e]; exact hg1)
    refine ⟨g1, cap, cs1, vi, b, hv, hgh, hc i k vi hi hvi, hk i k vi b hi hvi hbi, hg1b, hg1, hsub, fun w2 k' h1 h2 h3 ht => ?_⟩
    have hsz := h.size
    have hcell := (hc i k vi hi hvi).set h1 h2 h3
    refine ⟨⟨by have := ht.size; omega, ht.os.trans h.os, ht.tape.trans h.tape, ht.output.trans h.output, ?_, ?_, ?_, fun x hx hx1 hx2 => ?_⟩, ?_, ?_⟩
    · rw [ht.rest w.heap.size (by omega) (fun e => by have := hbl g1 hg1; omega) (fun hm => by have := hbl _ (hsub _ hm); omega)]
      exact h.box
    · rw [ht.rest g (by omega) hgg (fun hm => hg (hsub g hm))]
      exact h.blk
    · have := spS_upd hgh hl hb hc hk nd hi hvi hbi h1 h2 h3 ht.blk ht.kids (fun x hx hxb => ht.rest x (h.kids.lt x (by rw [hbs]; exact List.mem_cons_of_mem _ hx)) (fun e => (List.nodup_cons.1 nd).1 (by rw [← e]; exact hx)) hxb) (cap := cap)
      rw [List.length_set] at this
      rw [hv, hbs]; exact this
    · rw [ht.rest x (by omega) (fun e => hx2 (by rw [e]; exact hg1)) (fun hm => hx2 (hsub x hm))]
      exact h.rest x hx hx1 hx2
    · rw [cell_at ht.blk]; exact hcell.2.2.2.2
    · rw [cell_at ht.blk]; exact hcell.2.2.2.1
end Go.Proofs.YtagppgncanimaaaGreatDoor
namespace Go.Proofs.YtagppgncanimaaaGreatDoor
open Go.RowKit

/-- So far as j they were gone through. -/
def goneS (F : Sp → Sp) (ks : List Sp) (j : Nat) : List Sp := (ks.take j).map F ++ ks.drop j
theorem goneS_len (F : Sp → Sp) (ks : List Sp) (j : Nat) : (goneS F ks j).length = ks.length := by
  unfold goneS
  rw [List.length_append, List.length_map, ← List.length_append, List.take_append_drop]
theorem goneS_at {F : Sp → Sp} {ks : List Sp} {j : Nat} {k : Sp} (h : ks[j]? = some k) : (goneS F ks j)[j]? = some k ∧ (goneS F ks j).set j (F k) = goneS F ks (j + 1) := by
  have hl := (List.getElem?_eq_some_iff.1 h).1
  have hlen : ((ks.take j).map F).length = j := by simp; omega
  unfold goneS
  have hd : ks.drop j = k :: ks.drop (j + 1) := by
    rw [List.drop_eq_getElem_cons hl]
    congr 1
    have := List.getElem?_eq_getElem hl
    rw [h] at this
    exact (Option.some.inj this).symm
  constructor
  · rw [List.getElem?_append_right (by omega), hlen, hd]; simp
  · rw [hd, List.set_append_right _ _ (by omega), hlen, Nat.sub_self, List.take_add_one, h]
    simp

set_option maxRecDepth 20000 in
set_option maxHeartbeats 2000000 in
theorem each_any {nm : List UInt8} {vc : Value} {cls : List (List UInt8)} {s : Sp} (hI : ∀ k ∈ s.kids, TakeC nm vc cls k) (hn : s.kids.length ≤ 1000000) (hvc : ∃ ao n c, vc = .slice ao n c)
    (B : Nat) (w : World) (g o : Nat) (cs : Array Value) (v : Value) (bs : List Nat) (f : Bool) (hg : w.heap[g]? = some (.cells cs 76 (0, 0))) (hs : SpC cs o s v) (hk : SpS w v s.kids bs) (hgb : g ∉ bs) (hB : ∀ x ∈ bs, B ≤ x) (hBg : B ≤ g) (hW : ∀ W, Below B w W → Txs W vc cls) :
    Calls Tryz.prog 65 #[.pointer (some ⟨g, o, none⟩), .agg #[.string (tx nm), vc], .bool f] w fun e w' => e = .returned (.tuple #[]) ∧ TkP w w' g o cs (.mk s.op s.name (s.kids.map fun k => k.take (fitB nm cls) f) s.em ((s.kids.map fun k => k.take (fitB nm cls) f).any Sp.en)) v bs := by
  obtain ⟨vo, vn, vcc, rfl⟩ := hvc
  obtain ⟨ao, cap, rfl⟩ := hk.form
  have hgl := (Array.getElem?_eq_some_iff.1 hg).1
  obtain ⟨n, hnn⟩ : ∃ n, n = s.kids.length := ⟨_, rfl⟩
  have HN := hid hnn
  rw [← hnn] at hn hs hk ⊢
  obtain ⟨a0, a1, a2, a3, a4⟩ := hs
  have HG := hid hg
  have c4 : ∀ ob, (w.alloc ob).cell? ⟨g, o + 4, none⟩ = some (.bool s.en) := fun ob => by rw [cell_at (new_old _ ob hg)]; exact a4
  have f4 : ∀ ob, (w.alloc ob).frozen? ⟨g, o + 4, none⟩ = false := fun ob => free_of (new_old _ ob hg)
  have c2 : w.cell? ⟨g, o + 2, none⟩ = some (.slice ao n cap) := by rw [cell_at hg]; exact a2
  have HA2 := hid a2
  have HA4 := hid a4
  have HK := hid hk
  have HI := hid hI
  have HGB := hid hgb
  have HBB := hid hB
  have HWT := hid hW
  have HBL := hid (show ∀ x ∈ bs, x < w.heap.size from hk.lt)
  obtain ⟨S1, hS1⟩ : ∃ S1 : Sp, S1 = (.mk s.op s.name (s.kids.map fun k => k.take (fitB nm cls) f) s.em ((s.kids.map fun k => k.take (fitB nm cls) f).any Sp.en)) := ⟨_, rfl⟩
  have HS1 := hid hS1
  rw [← hS1]
  clear hg a0 a1 a2 a3 a4 hk hI hgb hB hW hnn hS1
  go_enter Tryz.func65, Tryz.ntmps65
  go_wp2_with fail
  have hsz := HK.out.lt
  have HT0 := hid (show TkL w ((w.setCell ⟨g, o + 4, none⟩ (.bool false)).alloc (.cells #[.string (tx nm), .slice vo vn vcc] 66)) g o cs (goneS (fun k => k.take (fitB nm cls) f) s.kids 0) false (.slice ao n cap) bs (.cells #[.string (tx nm), .slice vo vn vcc] 66) from by
    have e1 : (w.setCell ⟨g, o + 4, none⟩ (.bool false)).heap.size = w.heap.size := by simp
    refine ⟨by simp, rfl, rfl, rfl, ?_, ?_, ?_, fun k hk h1 h2 => ?_⟩
    · have := new_0 (w.setCell ⟨g, o + 4, none⟩ (.bool false)) (.cells #[.string (tx nm), .slice vo vn vcc] 66)
      rw [e1] at this; exact this
    · rw [Below.heap_alloc _ _ _ (by rw [e1]; exact hgl), heap_setCell_same w g (o + 4) _ _ (.bool false) HG.out]
    · show SpS _ _ s.kids bs
      refine HK.out.on fun k hk => ?_
      rw [Below.heap_alloc _ _ _ (by rw [e1]; exact HBL.out k hk), Below.heap_setCell _ _ _ _ (by show k ≠ g; intro e; rw [e] at hk; exact HGB.out hk)]
    · rw [Below.heap_alloc _ _ _ (by rw [e1]; exact hk), Below.heap_setCell _ _ _ _ (by exact h1)])
  clear hsz
  go_loopw [16] (fun i wr => ∃ j : Nat, j ≤ n ∧ i = .int .i64 j ∧ Hid (TkL w wr g o cs (goneS (fun k => k.take (fitB nm cls) f) s.kids j) (((s.kids.take j).map fun k => k.take (fitB nm cls) f).any Sp.en) (.slice ao n cap) bs (.cells #[.string (tx nm), .slice vo vn vcc] 66))) (fun i _ => n - (intOf i).toNat)
  case atStart => exact ⟨0, Nat.zero_le _, rfl, HT0⟩
  case round =>
    obtain ⟨j, hj, rfl, HL⟩ := hrel
    obtain ⟨ej, hej⟩ : ∃ ej, ej = ((s.kids.take j).map fun k => k.take (fitB nm cls) f).any Sp.en := ⟨_, rfl⟩
    have HEJ := hid hej
    rw [← hej] at HL
    clear hej
    by_cases hlt : j < n
    · obtain ⟨k, hkj⟩ : ∃ k, s.kids[j]? = some k := ⟨s.kids[j]'(by rw [← HN.out]; exact hlt), List.getElem?_eq_getElem _⟩
      obtain ⟨hq1, hq2⟩ := goneS_at (F := fun k => k.take (fitB nm cls) f) hkj
      obtain ⟨g1, cap1, cs1, vi, b, hv, hgh, hsc, hsp, hg1b, hg1, hsub, hnext⟩ := HL.out.next HGB.out hgl HBL.out hq1
      rw [goneS_len, ← HN.out] at hv
      injection hv with hv1 _ hv2
      subst hv1 hv2
      have hBw : B ≤ w.heap.size := by have := HBB.out g1 hg1; have := HBL.out g1 hg1; omega
      have hbel := HL.out.below hBg HBB.out hBw
      have HC := hid (HI.out k (List.mem_of_getElem? hkj) B wr g1 (j * 5) cs1 vi b f hgh hsc hsp hg1b (fun x hx => HBB.out x (hsub x hx)) (HBB.out g1 hg1) (fun W hb => HWT.out W (hbel.trans hb)))
      obtain ⟨k', hk'⟩ : ∃ k', k' = k.take (fitB nm cls) f := ⟨_, rfl⟩
      obtain ⟨o1, o2, o3⟩ := k.take_op (fitB nm cls) f
      have HNX := hid (fun (w2 : World) (ht : TkP wr w2 g1 (j * 5) cs1 k' vi b) => (by
        have := hnext w2 k' (by rw [hk']; exact o1) (by rw [hk']; exact o2) (by rw [hk']; exact o3) ht
        rw [show (goneS (fun k => k.take (fitB nm cls) f) s.kids j).set j k' = goneS (fun k => k.take (fitB nm cls) f) s.kids (j + 1) by rw [hk']; exact hq2] at this
        exact ⟨this.1, this.2.1⟩ : TkL w w2 g o cs (goneS (fun k => k.take (fitB nm cls) f) s.kids (j + 1)) ej (.slice (some ⟨g1, 0, none⟩) n cap) bs (.cells #[.string (tx nm), .slice vo vn vcc] 66) ∧ w2.cell? ⟨g1, j * 5 + 4, none⟩ = some (.bool k'.en)))
      rw [← hk'] at HC
      have HTK := hid (show ((s.kids.take (j + 1)).map fun k => k.take (fitB nm cls) f).any Sp.en = (ej || k'.en) by
        rw [List.take_add_one, hkj, List.map_append, List.any_append, HEJ.out, hk']; simp)
      have z0 : wr.cell? ⟨w.heap.size, 0, none⟩ = some (.string (tx nm)) := by rw [cell_at HL.out.box]; rfl
      have z1 : wr.cell? ⟨w.heap.size, 1, none⟩ = some (.slice vo vn vcc) := by rw [cell_at HL.out.box]; rfl
      have z2 : wr.cell? ⟨g, o + 2, none⟩ = some (.slice (some ⟨g1, 0, none⟩) n cap) := by
        rw [cell_at HL.out.blk, Array.getElem?_setIfInBounds_ne (by omega)]; exact HA2.out
      have hkI : (j : Int) < (n : Int) := by omega
      have hk0 : (0 : Int) ≤ (j : Int) := by omega
      have HHL := HA4.out
      obtain ⟨ke, hke⟩ : ∃ ke, ke = k'.en := ⟨_, rfl⟩
      rw [← hke] at HNX HTK
      clear hkj hq1 hq2 hgh hsc hsp hg1b hsub hnext hbel hk' o1 o2 o3 hke HHL
      go_wp2_with fail
      refine HC.out.mono ?_
      rintro en w2 ⟨rfl, ht⟩
      obtain ⟨hL2, y4⟩ := HNX.out w2 ht
      have y5 : w2.cell? ⟨g, o + 4, none⟩ = some (.bool ej) := by
        rw [cell_at hL2.blk, Array.getElem?_setIfInBounds_self_of_lt (Array.getElem?_eq_some_iff.1 HA4.out).1]
      have y6 : w2.frozen? ⟨g, o + 4, none⟩ = false := free_of hL2.blk
      have L2 := hid hL2
      have HF := hid (fun e' => hL2.ends HGB.out hgl e')
      clear ht hL2
      cases ej with
      | true =>
        go_wp2
        go_roundw
        case rel => exact ⟨j + 1, by omega, by go_num, by rw [HTK.out]; exact hid (HF.out true)⟩
        case measure => simp [intOf]; omega
      | false =>
        go_wp2
        go_roundw
        case rel => exact ⟨j + 1, by omega, by go_num, by rw [HTK.out]; exact hid (HF.out ke)⟩
        case measure => simp [intOf]; omega
    · have hkI : ¬ ((j : Int) < (n : Int)) := by omega
      have HFIN := hid (show TkP w wr g o cs S1 (.slice ao n cap) bs from by
        rw [HS1.out]
        have h := HL.out
        have hjl : s.kids.length ≤ j := by have := HN.out; omega
        have e1 : goneS (fun k => k.take (fitB nm cls) f) s.kids j = s.kids.map fun k => k.take (fitB nm cls) f := by
          unfold goneS
          rw [List.take_of_length_le hjl, List.drop_of_length_le hjl, List.append_nil]
        have e2 : ej = (s.kids.map fun k => k.take (fitB nm cls) f).any Sp.en := by rw [HEJ.out, List.take_of_length_le hjl]
        rw [e1] at h
        rw [e2] at h
        exact ⟨by have := h.size; omega, h.os, h.tape, h.output, h.blk, h.kids, h.rest⟩)
      clear hlt
      go_wp2
      exact bodyPost_end (v := .tuple #[]) (by simp [results, Tryz.results65, go_sem]) rfl ⟨rfl, HFIN.out⟩
end Go.Proofs.YtagppgncanimaaaGreatDoor
namespace Go.Proofs.YtagppgncanimaaaGreatDoor
open Go.RowKit

/-- May a path begin behind these? -/
def firstL (f : Bool) (qs : List Sp) : Bool := qs.foldl (fun f k => k.en || f && k.em) f
/-- All gone through, one behind the other. -/
def doneS (F : Sp → Bool → Sp) (f : Bool) (ks : List Sp) : List Sp := List.zipWith (fun t b => t b) (ks.map F) (firsts f ks)
theorem doneS_len (F : Sp → Bool → Sp) (ks : List Sp) : ∀ f, (doneS F f ks).length = ks.length := by
  induction ks with
  | nil => intro f; rfl
  | cons k t ih => intro f; exact congrArg (· + 1) (ih _)
theorem doneS_snoc (F : Sp → Bool → Sp) (k : Sp) (qs : List Sp) : ∀ f, doneS F f (qs ++ [k]) = doneS F f qs ++ [F k (firstL f qs)] := by
  induction qs with
  | nil => intro f; rfl
  | cons a t ih => intro f; exact congrArg (F a f :: ·) (ih (a.en || f && a.em))
def rowS (F : Sp → Bool → Sp) (f : Bool) (ks : List Sp) (j : Nat) : List Sp := doneS F f (ks.take j) ++ ks.drop j
theorem rowS_len (F : Sp → Bool → Sp) (f : Bool) (ks : List Sp) (j : Nat) : (rowS F f ks j).length = ks.length := by
  unfold rowS
  rw [List.length_append, doneS_len, ← List.length_append, List.take_append_drop]
theorem rowS_at {F : Sp → Bool → Sp} {f : Bool} {ks : List Sp} {j : Nat} {k : Sp} (h : ks[j]? = some k) : (rowS F f ks j)[j]? = some k ∧ (rowS F f ks j).set j (F k (firstL f (ks.take j))) = rowS F f ks (j + 1) := by
  have hl := (List.getElem?_eq_some_iff.1 h).1
  have hlen : (doneS F f (ks.take j)).length = j := by rw [doneS_len]; simp; omega
  unfold rowS
  have hd : ks.drop j = k :: ks.drop (j + 1) := by
    rw [List.drop_eq_getElem_cons hl]
    congr 1
    have := List.getElem?_eq_getElem hl
    rw [h] at this
    exact (Option.some.inj this).symm
  constructor
  · rw [List.getElem?_append_right (by omega), hlen, hd]; simp
  · rw [hd, List.set_append_right _ _ (by omega), hlen, Nat.sub_self, List.take_add_one, h]
    show _ = doneS F f (ks.take j ++ [k]) ++ _
    rw [doneS_snoc]
    simp
theorem endsR_snoc (X : List Sp) (k : Sp) : endsR (X ++ [k]) = (k.en || endsR X && k.em) := by simp [endsR]
theorem firstL_snoc (f : Bool) (X : List Sp) (k : Sp) : firstL f (X ++ [k]) = (k.en || firstL f X && k.em) := by simp [firstL]

set_option maxRecDepth 20000 in
set_option maxHeartbeats 4000000 in
theorem row_any {nm : List UInt8} {vc : Value} {cls : List (List UInt8)} {s : Sp} (hI : ∀ k ∈ s.kids, TakeC nm vc cls k) (hn : s.kids.length ≤ 1000000) (hvc : ∃ ao n c, vc = .slice ao n c)
    (B : Nat) (w : World) (g o : Nat) (cs : Array Value) (v : Value) (bs : List Nat) (f : Bool) (hg : w.heap[g]? = some (.cells cs 76 (0, 0))) (hs : SpC cs o s v) (hk : SpS w v s.kids bs) (hgb : g ∉ bs) (hB : ∀ x ∈ bs, B ≤ x) (hBg : B ≤ g) (hW : ∀ W, Below B w W → Txs W vc cls) :
    Calls Tryz.prog 64 #[.pointer (some ⟨g, o, none⟩), .agg #[.string (tx nm), vc], .bool f] w fun e w' => e = .returned (.tuple #[]) ∧ TkP w w' g o cs (.mk s.op s.name (doneS (Sp.take (fitB nm cls)) f s.kids) s.em (endsR (doneS (Sp.take (fitB nm cls)) f s.kids))) v bs := by
  obtain ⟨vo, vn, vcc, rfl⟩ := hvc
  obtain ⟨ao, cap, rfl⟩ := hk.form
  have hgl := (Array.getElem?_eq_some_iff.1 hg).1
  obtain ⟨n, hnn⟩ : ∃ n, n = s.kids.length := ⟨_, rfl⟩
  have HN := hid hnn
  rw [← hnn] at hn hs hk ⊢
  obtain ⟨a0, a1, a2, a3, a4⟩ := hs
  have HG := hid hg
  have c4 : ∀ ob, (w.alloc ob).cell? ⟨g, o + 4, none⟩ = some (.bool s.en) := fun ob => by rw [cell_at (new_old _ ob hg)]; exact a4
  have f4 : ∀ ob, (w.alloc ob).frozen? ⟨g, o + 4, none⟩ = false := fun ob => free_of (new_old _ ob hg)
  have c2 : w.cell? ⟨g, o + 2, none⟩ = some (.slice ao n cap) := by rw [cell_at hg]; exact a2
  have HA2 := hid a2
  have HA4 := hid a4
  have HK := hid hk
  have HI := hid hI
  have HGB := hid hgb
  have HBB := hid hB
  have HWT := hid hW
  have HBL := hid (show ∀ x ∈ bs, x < w.heap.size from hk.lt)
  obtain ⟨F, hF⟩ : ∃ F, F = Sp.take (fitB nm cls) := ⟨_, rfl⟩
  have HFF := hid hF
  rw [← hF]
  obtain ⟨S1, hS1⟩ : ∃ S1 : Sp, S1 = (.mk s.op s.name (doneS F f s.kids) s.em (endsR (doneS F f s.kids))) := ⟨_, rfl⟩
  have HS1 := hid hS1
  rw [← hS1]
  clear hg a0 a1 a2 a3 a4 hk hI hgb hB hW hnn hS1 hF
  go_enter Tryz.func64, Tryz.ntmps64
  go_wp2_with fail
  have HT0 := hid (show TkL w ((w.setCell ⟨g, o + 4, none⟩ (.bool false)).alloc (.cells #[.string (tx nm), .slice vo vn vcc] 66)) g o cs (rowS F f s.kids 0) false (.slice ao n cap) bs (.cells #[.string (tx nm), .slice vo vn vcc] 66) from by
    have e1 : (w.setCell ⟨g, o + 4, none⟩ (.bool false)).heap.size = w.heap.size := by simp
    refine ⟨by simp, rfl, rfl, rfl, ?_, ?_, ?_, fun k hk h1 h2 => ?_⟩
    · have := new_0 (w.setCell ⟨g, o + 4, none⟩ (.bool false)) (.cells #[.string (tx nm), .slice vo vn vcc] 66)
      rw [e1] at this; exact this
    · rw [Below.heap_alloc _ _ _ (by rw [e1]; exact hgl), heap_setCell_same w g (o + 4) _ _ (.bool false) HG.out]
    · show SpS _ _ s.kids bs
      refine HK.out.on fun k hk => ?_
      rw [Below.heap_alloc _ _ _ (by rw [e1]; exact HBL.out k hk), Below.heap_setCell _ _ _ _ (by show k ≠ g; intro e; rw [e] at hk; exact HGB.out hk)]
    · rw [Below.heap_alloc _ _ _ (by rw [e1]; exact hk), Below.heap_setCell _ _ _ _ (by exact h1)])
  go_loopw [2, 17] (fun fv i wr => ∃ j : Nat, j ≤ n ∧ i = .int .i64 j ∧ fv = .bool (firstL f (s.kids.take j)) ∧ Hid (TkL w wr g o cs (rowS F f s.kids j) (endsR (doneS F f (s.kids.take j))) (.slice ao n cap) bs (.cells #[.string (tx nm), .slice vo vn vcc] 66))) (fun _ i _ => n - (intOf i).toNat)
  case atStart => exact ⟨0, Nat.zero_le _, rfl, rfl, HT0⟩
  case round =>
    obtain ⟨j, hj, rfl, rfl, HL⟩ := hrel
    obtain ⟨ej, hej⟩ : ∃ ej, ej = endsR (doneS F f (s.kids.take j)) := ⟨_, rfl⟩
    have HEJ := hid hej
    rw [← hej] at HL
    obtain ⟨fj, hfj⟩ : ∃ fj, fj = firstL f (s.kids.take j) := ⟨_, rfl⟩
    have HFJ := hid hfj
    rw [← hfj]
    clear hej hfj
    by_cases hlt : j < n
    · obtain ⟨k, hkj⟩ : ∃ k, s.kids[j]? = some k := ⟨s.kids[j]'(by rw [← HN.out]; exact hlt), List.getElem?_eq_getElem _⟩
      obtain ⟨hq1, hq2⟩ := rowS_at (F := F) (f := f) hkj
      rw [← HFJ.out] at hq2
      obtain ⟨g1, cap1, cs1, vi, b, hv, hgh, hsc, hsp, hg1b, hg1, hsub, hnext⟩ := HL.out.next HGB.out hgl HBL.out hq1
      rw [rowS_len, ← HN.out] at hv
      injection hv with hv1 _ hv2
      subst hv1 hv2
      have hBw : B ≤ w.heap.size := by have := HBB.out g1 hg1; have := HBL.out g1 hg1; omega
      have hbel := HL.out.below hBg HBB.out hBw
      have HC := hid (HI.out k (List.mem_of_getElem? hkj) B wr g1 (j * 5) cs1 vi b fj hgh hsc hsp hg1b (fun x hx => HBB.out x (hsub x hx)) (HBB.out g1 hg1) (fun W hb => HWT.out W (hbel.trans hb)))
      rw [← HFF.out] at HC
      obtain ⟨k', hk'⟩ : ∃ k', k' = F k fj := ⟨_, rfl⟩
      have hop : k'.op = k.op ∧ k'.name = k.name ∧ k'.em = k.em := by rw [hk', HFF.out]; exact k.take_op (fitB nm cls) fj
      have HNX := hid (fun (w2 : World) (ht : TkP wr w2 g1 (j * 5) cs1 k' vi b) => (by
        have := hnext w2 k' hop.1 hop.2.1 hop.2.2 ht
        rw [show (rowS F f s.kids j).set j k' = rowS F f s.kids (j + 1) by rw [hk']; exact hq2] at this
        exact this : TkL w w2 g o cs (rowS F f s.kids (j + 1)) ej (.slice (some ⟨g1, 0, none⟩) n cap) bs (.cells #[.string (tx nm), .slice vo vn vcc] 66) ∧ w2.cell? ⟨g1, j * 5 + 4, none⟩ = some (.bool k'.en) ∧ w2.cell? ⟨g1, j * 5 + 3, none⟩ = some (.bool k'.em)))
      rw [← hk'] at HC
      have htk : s.kids.take (j + 1) = s.kids.take j ++ [k] := by rw [List.take_add_one, hkj]; rfl
      have HTK := hid (show endsR (doneS F f (s.kids.take (j + 1))) = (k'.en || ej && k'.em) by
        rw [htk, doneS_snoc, endsR_snoc, ← HFJ.out, ← hk', HEJ.out])
      have HTF := hid (show firstL f (s.kids.take (j + 1)) = (k.en || fj && k.em) by rw [htk, firstL_snoc, HFJ.out])
      have z0 : wr.cell? ⟨w.heap.size, 0, none⟩ = some (.string (tx nm)) := by rw [cell_at HL.out.box]; rfl
      have z1 : wr.cell? ⟨w.heap.size, 1, none⟩ = some (.slice vo vn vcc) := by rw [cell_at HL.out.box]; rfl
      have z2 : wr.cell? ⟨g, o + 2, none⟩ = some (.slice (some ⟨g1, 0, none⟩) n cap) := by
        rw [cell_at HL.out.blk, Array.getElem?_setIfInBounds_ne (by omega)]; exact HA2.out
      have z3 : wr.cell? ⟨g1, j * 5 + 3, none⟩ = some (.bool k.em) := by rw [cell_at hgh]; exact hsc.2.2.2.1
      have z4 : wr.cell? ⟨g1, j * 5 + 4, none⟩ = some (.bool k.en) := by rw [cell_at hgh]; exact hsc.2.2.2.2
      have hkI : (j : Int) < (n : Int) := by omega
      have hk0 : (0 : Int) ≤ (j : Int) := by omega
      obtain ⟨x1, hx1⟩ : ∃ x1, x1 = k.en := ⟨_, rfl⟩
      obtain ⟨x2, hx2⟩ : ∃ x2, x2 = k.em := ⟨_, rfl⟩
      obtain ⟨x3, hx3⟩ : ∃ x3, x3 = k'.en := ⟨_, rfl⟩
      obtain ⟨x4, hx4⟩ : ∃ x4, x4 = k'.em := ⟨_, rfl⟩
      rw [← hx1] at z4
      rw [← hx2] at z3
      rw [← hx1, ← hx2] at HTF
      rw [← hx3, ← hx4] at HNX HTK
      clear hkj hq1 hq2 hgh hsc hsp hg1b hsub hnext hbel hk' hop hx1 hx2 hx3 hx4 htk
      cases x1 <;> cases fj <;> cases x3 <;> cases ej
      all_goals (
        go_wp2_with fail
        try (go_quiet (fail); go_wp2_with fail)
        refine HC.out.mono ?_
        rintro en w2 ⟨rfl, ht⟩
        obtain ⟨hL2, y4, y3⟩ := HNX.out w2 ht
        have y5 := (cell_at (o := o + 4) hL2.blk).trans (Array.getElem?_setIfInBounds_self_of_lt (Array.getElem?_eq_some_iff.1 HA4.out).1)
        have y6 : w2.frozen? ⟨g, o + 4, none⟩ = false := free_of hL2.blk
        have HF := hid (fun e' => hL2.ends HGB.out hgl e')
        clear ht hL2
        go_wp2
        go_roundw
        case rel => exact ⟨j + 1, by omega, by go_num, by rw [HTF.out]; rfl, by rw [HTK.out]; exact hid (HF.out _)⟩
        case measure => simp [intOf]; omega)
    · have hkI : ¬ ((j : Int) < (n : Int)) := by omega
      have HFIN := hid (show TkP w wr g o cs S1 (.slice ao n cap) bs from by
        rw [HS1.out]
        have h := HL.out
        have hjl : s.kids.length ≤ j := by have := HN.out; omega
        have e1 : rowS F f s.kids j = doneS F f s.kids := by
          unfold rowS
          rw [List.take_of_length_le hjl, List.drop_of_length_le hjl, List.append_nil]
        have e2 : ej = endsR (doneS F f s.kids) := by rw [HEJ.out, List.take_of_length_le hjl]
        rw [e1] at h
        rw [e2] at h
        exact ⟨by have := h.size; omega, h.os, h.tape, h.output, h.blk, h.kids, h.rest⟩)
      clear hlt
      go_wp2
      exact bodyPost_end (v := .tuple #[]) (by simp [results, Tryz.results64, go_sem]) rfl ⟨rfl, HFIN.out⟩
end Go.Proofs.YtagppgncanimaaaGreatDoor
