/-
  The document's own Left.
  The document's own: why several are refused; do no two of several meet? And Apart of none.
-/
import Derived.Test.YtipmlcdnfaobiaaGreatEachAnd
namespace Go.Proofs.YtipmlcdnfaobiaaGreat.Cub
open Go.RowKit
attribute [local go_sem ↓] Go.wp_at_zero Go.wp_at_succ

theorem wrong_list (ls : List (List UInt8)) (v : Value) (w : World) (hr : Row w v ls) (hn : ls.length ≤ 1000000) (hz : ∀ l ∈ ls, l.length ≤ maxLen) :
    Calls Tryz.prog 61 #[v] w fun e w' => e = .returned (.int .i64 (errL ls)) ∧ Below w.heap.size w w' := by
  obtain ⟨ao, cap, rfl, hr⟩ := hr
  rcases hr with rfl | ⟨g, o, rfl, hg, hc⟩
  · exact wrong_none ao cap w
  · by_cases h0 : ls.length = 0
    · have : ls = [] := List.length_eq_zero_iff.1 h0
      subst this
      exact wrong_none _ cap w
    · have hsz : ∀ i, i < ls.length → (nth ls i).size ≤ maxLen := fun i hi => by
        rw [nth_size, nth_at hi]; exact hz _ (List.getElem_mem hi)
      rcases errL_cases ls with e | ⟨e, h1, m, hm, h2⟩ | ⟨e, m, hm, h1, h2⟩
      · rw [e]
        obtain ⟨q1, q2⟩ := errL_zero e
        exact wrong_rest (nth ls) ls.length g o cap w (row_cells hc) (by omega) hn hsz q1 0 (Or.inl ⟨rfl, fun i hi => by rw [nth_size, nth_size]; exact q2 i hi⟩)
      · rw [e]
        exact wrong_rest (nth ls) ls.length g o cap w (row_cells hc) (by omega) hn hsz h1 11 (Or.inr ⟨rfl, m, hm, by rw [nth_size, nth_size]; exact h2⟩)
      · rw [e]
        exact wrong_cube (nth ls) ls.length g o cap w (row_cells hc) hn hsz m hm h2 h1

end Go.Proofs.YtipmlcdnfaobiaaGreat.Cub
namespace Go.Proofs.YtipmlcdnfaobiaaGreat.Cub
open Go.RowKit
attribute [local go_sem ↓] Go.wp_at_zero Go.wp_at_succ

/-- append of a row of texts, nil or not, as one step of a region that draws. -/
theorem step_append_src {P : Program} (w : World) {ops : Array Oper} {o : Oper} {a : Act} {K : Act → World → Prop} {Q : Exit → Act → World → Prop} {E : Prop} (hgd : o.guard = none) (s x : Operand) (t : TypeId)
    (ho : o.op = .call { callee := .builtin .append, args := #[s, x], argTypes := #[t, t] })
    (base : Nat) (e : TypeId) (i : TypeInfo) (z : Value) (bytes : Nat) (ht : P.underlying t = some (.slice e)) (hi : P.info? e = some i) (hz : i.zero = some z)
    (hsize : i.size = 1) (hby : i.bytes = bytes) (hzs : z.cells.size = 1)
    (v : Value) (n : Nat) (xs : List Value) (hs : a.eval s = v) (hown : w.ownsRow base e 1 v n xs)
    (vx : Value) (ls : List (List UInt8)) (hx : a.eval x = vx) (hsrc : Src w vx ls)
    (h63 : n + ls.length ≤ maxLen) (hbytes : (n + ls.length) * bytes ≤ 140737488355328) (hbase : base ≤ w.heap.size)
    (h : ∀ v' w', w'.ownsRow base e 1 v' (n + ls.length) (xs ++ svs ls) → w.grownBy w' v.ownBlock → K (a.put o.dst v') w') :
    if Region.wanted o (yielded ops a.tmps) = true then Oper.wp P o a w K Q else E := by
  have hw : Region.wanted o (yielded ops a.tmps) = true := by simp [Region.wanted, hgd]
  rw [if_pos hw]
  rcases hsrc with ⟨rfl, rfl⟩ | ⟨ad, cap, rfl, hc⟩
  · have hrun := run_append_owned_none (P := P) (w := w) base t o.type e i 1 ht hi v n xs hown
    unfold Oper.wp
    simp [execOp, ho, resolve, invoke, builtin, hs, hx, hrun, Result.andThen]
    exact h v w (by simpa [svs] using hown) (grown_refl _ _)
  · obtain ⟨v', w', hrun, h2, h3, _, _⟩ := run_append_own_at (P := P) w base t o.type e i z 1 bytes ht hi hz hsize hby hzs (by decide) v n xs hown ad ls.length cap (svs ls) (by simp [svs]) (fun j u hj => (hc j u hj).2) (svs_one ls) h63 hbytes hbase
    unfold Oper.wp
    simp [execOp, ho, resolve, invoke, builtin, hs, hx, hrun, Result.andThen]
    exact h v' w' h2 h3

theorem src_own {w : World} {base : Nat} {v : Value} {ls : List (List UInt8)} (h : w.ownsRow base 9 1 v ls.length (svs ls)) : Src w v ls := by
  have h0 := h
  rcases h.2 with ⟨e, e2⟩ | ⟨g, cap, cur, e, _, hg, _⟩
  · have : ls = [] := List.length_eq_zero_iff.1 e2
    subst this
    exact Or.inl ⟨e, rfl⟩
  · subst e
    refine Or.inr ⟨⟨g, 0, none⟩, cap, rfl, fun j u hj => ⟨lt_of_block hg, ?_⟩⟩
    have hl : j < ls.length := by
      obtain ⟨q, _⟩ := List.getElem?_eq_some_iff.1 hj
      simpa [svs] using q
    rw [add_zero, h0.cellAt j (by omega)]; exact hj

theorem rcut_own (a b : ByteArray) (w : World) (h : err2 a b = 0) :
    Calls Tryz.prog 62 #[.string a, .string b] w fun e w' => ∃ v, e = .returned v ∧ w'.ownsRow w.heap.size 9 1 v (Cu.cutL a.data.toList b.data.toList).length (svs (Cu.cutL a.data.toList b.data.toList)) ∧ Below w.heap.size w w' := by
  obtain ⟨ha, hb, hs⟩ := err2_zero h
  rcases bool_two (Cu.meetsB a.data.toList b.data.toList) with hm | hm
  · refine (rcut_apart a b w ha hb hs hm).mono ?_
    rintro e w' ⟨v, rfl, hown, hb'⟩
    refine ⟨v, rfl, ?_, hb'⟩
    have e : Cu.cutL a.data.toList b.data.toList = [a.data.toList] := by unfold Cu.cutL; rw [hm, if_neg (by simp)]
    rw [e]
    rw [sv_data a] at hown
    exact hown
  · refine (rcut_meet a b w ha hb hs hm).mono ?_
    rintro e w' ⟨v, rfl, hown, hb'⟩
    refine ⟨v, rfl, ?_, hb'⟩
    have e : Cu.cutL a.data.toList b.data.toList = Cu.cutTo a.data.toList b.data.toList a.size := by unfold Cu.cutL; rw [hm, if_pos rfl, len_data]
    rw [e]
    exact hown

theorem grown_below {w w' : World} {base : Nat} {v : Value} {n : Nat} {xs : List Value} (hg : w.grownBy w' v.ownBlock) (ho : w.ownsRow base 9 1 v n xs) : Below (min base w.heap.size) w w' :=
  (Below.refl _ _).grown hg (Nat.min_le_right _ _) (fun k hk => Nat.le_trans (Nat.min_le_left _ _) (ho.lt k hk).1)

theorem svs_append (a b : List (List UInt8)) : svs (a ++ b) = svs a ++ svs b := List.map_append
theorem own_rebase {w : World} {base base' : Nat} {e : TypeId} {size : Nat} {v : Value} {n : Nat} {xs : List Value} (h : w.ownsRow base e size v n xs) (hb : base' ≤ base) : w.ownsRow base' e size v n xs := by
  refine ⟨h.1, ?_⟩
  rcases h.2 with q | ⟨g, cap, cur, e, h1, h2⟩
  · exact Or.inl q
  · exact Or.inr ⟨g, cap, cur, e, Nat.le_trans hb h1, h2⟩

set_option maxHeartbeats 1000000 in
theorem RLeft_bad (c : ByteArray) (v : Value) (ls : List (List UInt8)) (w : World) (hs : Src w v ls) (hn : ls.length ≤ 4096) (hcz : c.size ≤ maxLen) (hz : ∀ l ∈ ls, l.length ≤ maxLen) (he : errL (c.data.toList :: ls) ≠ 0) :
    Calls Tryz.prog 43 #[.string c, v] w fun e w' => e = .returned (.tuple #[.slice none 0 0, .int .i64 (errL (c.data.toList :: ls))]) ∧ Below w.heap.size w w' := by
  have hne : (errL (c.data.toList :: ls) != 0) = true := by rw [bne_iff_ne]; exact he
  have HS := hid hs
  have HZ : Hid (∀ l ∈ c.data.toList :: ls, l.length ≤ maxLen) := fun l hl => by
    rcases List.mem_cons.1 hl with e | e
    · rw [e, len_data]; exact hcz
    · exact hz l e
  clear he hs hcz hz
  obtain ⟨i0, hi, hz0, hz1, hz2⟩ := info_parts Tryz.infoString
  have HI := hid hi
  have HZ0 := hid hz0
  have HZ1 := hid hz1
  have HZ2 := hid hz2
  clear hi hz0 hz1 hz2
  have hO1 := hid (World.ownsRow_lit (e := 9) (size := 1) w #[.string c] 1 (Nat.le_refl _) (by unfold maxLen; omega) rfl)
  go_enter Tryz.func43, Tryz.ntmps43
  go_wp2_with (first | (at_builtin; refine wpList_append_src _ rfl (.tmp 12) (.tmp 13) 39 rfl w.heap.size 9 i0 (.string ByteArray.empty) 16 Tryz.underlying39 HI.out HZ0.out HZ1.out HZ2.out rfl _ 1 [.string c] rfl hO1.out v ls rfl (HS.out.below ((Below.refl _ _).alloc (Nat.le_refl _) _) (Nat.le_refl _)) ?d3 ?d4 ?d5 ?_))
  case d3 => unfold maxLen; omega
  case d4 => omega
  intro v2 w2 hown2 hgr2
  rw [sv_data c] at hown2
  have R2 : Hid (Row w2 v2 (c.data.toList :: ls)) := row_own (base := w.heap.size) (by rw [List.length_cons, Nat.add_comm]; exact hown2)
  have B2 : Hid (Below w.heap.size w w2) := ((Below.refl _ _).alloc (Nat.le_refl _) _).grown hgr2 (by simp) (fun k hk => by simp [Value.ownBlock] at hk; omega)
  clear hown2 hgr2
  go_wp2_with fail
  refine (wrong_list (c.data.toList :: ls) v2 w2 R2.out (by simp; omega) HZ.out).mono ?_
  rintro e w3 ⟨rfl, hb3⟩
  go_wp2
  go_ret2
  exact ⟨rfl, below2 B2.out hb3⟩

set_option maxRecDepth 20000 in
set_option maxHeartbeats 4000000 in
theorem RLeft_ok (c : ByteArray) (v : Value) (ls : List (List UInt8)) (w : World) (hs : Src w v ls) (hrow : Row w v ls) (hn : ls.length ≤ 4096) (hcz : c.size ≤ maxLen) (hz : ∀ l ∈ ls, l.length ≤ maxLen) (he : errL (c.data.toList :: ls) = 0) (r : Int) (many : Bool) (hmany : manyB c.data.toList ls = many) (hr : r = if many = true then 3 else 0) :
    Calls Tryz.prog 43 #[.string c, v] w fun e w' => ∃ v', e = .returned (.tuple #[v', .int .i64 r]) ∧ (many = true → v' = .slice none 0 0) ∧ (many = false → Row w' v' (leftTo c.data.toList ls ls.length)) ∧ Below w.heap.size w w' := by
  have HS := hid hs
  have HE := hid he
  have HMY := hid hmany
  have HRR := hid hr
  have HRW := hid hrow
  have HZ : Hid (∀ l ∈ c.data.toList :: ls, l.length ≤ maxLen) := fun l hl => by
    rcases List.mem_cons.1 hl with e | e
    · rw [e, len_data]; exact hcz
    · exact hz l e
  obtain ⟨e1, e2⟩ := errL_zero he
  have HC : Hid (Cu.right c.data.toList = true ∧ c.data.toList.length = c.size) := ⟨e1 0 (by simp), rfl⟩
  have HLS : Hid (∀ i, i < ls.length → Cu.right (ls.getD i []) = true ∧ (ls.getD i []).length = c.size) := fun i hi =>
    ⟨by have := e1 (i + 1) (by simp; omega); simpa using this, by have := e2 (i + 1) (by simp; omega); simpa using this⟩
  have HRT : Hid (∀ k, k ≤ ls.length → ∀ l ∈ leftTo c.data.toList ls k, Cu.right l = true ∧ l.length = c.size) := leftTo_right HC.out HLS.out
  clear he hs hcz hz hmany hr e1 e2
  obtain ⟨i0, hi, hz0, hz1, hz2⟩ := info_parts Tryz.infoString
  have HI := hid hi
  have HZ0 := hid hz0
  have HZ1 := hid hz1
  have HZ2 := hid hz2
  clear hi hz0 hz1 hz2
  have hO1 := hid (World.ownsRow_lit (e := 9) (size := 1) w #[.string c] 1 (Nat.le_refl _) (by unfold maxLen; omega) rfl)
  obtain ⟨ao, cap, rfl, hcell⟩ := hrow
  obtain ⟨n, hnn⟩ : ∃ n, n = ls.length := ⟨_, rfl⟩
  have HN := hid hnn
  rw [← hnn] at HS HRW hn
  rw [← hnn]
  have HCELL := hid hcell
  clear hnn hcell
  go_enter Tryz.func43, Tryz.ntmps43
  go_wp2_with (first | (at_builtin; refine wpList_append_src _ rfl (.tmp 12) (.tmp 13) 39 rfl w.heap.size 9 i0 (.string ByteArray.empty) 16 Tryz.underlying39 HI.out HZ0.out HZ1.out HZ2.out rfl _ 1 [.string c] rfl hO1.out _ ls rfl (HS.out.below ((Below.refl _ _).alloc (Nat.le_refl _) _) (Nat.le_refl _)) ?d3 ?d4 ?d5 ?_))
  case d3 => rw [← HN.out]; unfold maxLen; omega
  case d4 => rw [← HN.out]; omega
  intro v2 w2 hown2 hgr2
  rw [sv_data c] at hown2
  have R2 : Hid (Row w2 v2 (c.data.toList :: ls)) := row_own (base := w.heap.size) (by rw [List.length_cons, Nat.add_comm]; exact hown2)
  have B2 : Hid (Below w.heap.size w w2) := ((Below.refl _ _).alloc (Nat.le_refl _) _).grown hgr2 (by simp) (fun k hk => by simp [Value.ownBlock] at hk; omega)
  clear hown2 hgr2
  go_wp2_with fail
  have q := wrong_list (c.data.toList :: ls) v2 w2 R2.out (by simp [← HN.out]; omega) HZ.out
  rw [HE.out] at q
  refine q.mono ?_
  clear q
  rintro e w3 ⟨rfl, hb3⟩
  have B3 := hid (below2 B2.out hb3)
  have hB3 := B3.out.size
  clear hb3
  have I0 : Hid ((w3.alloc (.cells #[.string c] 9)).ownsRow w.heap.size 9 1 (.slice (some ⟨w3.heap.size, 0, none⟩) 1 1) (leftTo c.data.toList ls 0).length (svs (leftTo c.data.toList ls 0))) := by
    have := World.ownsRow_lit (e := 9) (size := 1) w3 #[.string c] 1 hB3 (by unfold maxLen; omega) rfl
    rw [sv_data c] at this ⊢
    exact this
  go_wp2
  go_loopw [7, 8] (fun p i wr => ∃ k : Nat, k ≤ n ∧ i = .int .i64 k ∧ wr.ownsRow w.heap.size 9 1 p (leftTo c.data.toList ls k).length (svs (leftTo c.data.toList ls k)) ∧ Below w.heap.size w wr ∧ Hid (∀ j, j ≤ k → (leftTo c.data.toList ls j).length ≤ 16384)) (fun _ i _ => n - (intOf i).toNat)
  case atStart =>
    refine ⟨0, Nat.zero_le _, rfl, I0.out, B3.out.alloc hB3 _, fun j hj => ?_⟩
    have e : j = 0 := by omega
    subst e
    simp [leftTo]
  case round =>
    obtain ⟨k, hk, rfl, hown, hbl, HSM⟩ := hrel
    rename World => wo
    have HO := hid hown
    clear I0
    have hwo := hbl.size
    by_cases hlt : k < n
    · obtain ⟨g, o, rfl, hg, hcc⟩ : ∃ g o, ao = some ⟨g, o, none⟩ ∧ g < w.heap.size ∧ ∀ i (h : i < ls.length), w.cell? ⟨g, o + i, none⟩ = some (sv ls[i]) := by
        rcases HCELL.out with rfl | hr
        · exfalso; have := HN.out; simp at this; omega
        · exact hr
      have HCC := hid (row_cells hcc)
      clear hcc
      obtain ⟨b, hb⟩ : ∃ b, b = nth ls k := ⟨_, rfl⟩
      have HBD : Hid (b.data.toList = ls.getD k []) := by show _ = _; rw [hb]; rfl
      have HBR : Hid (Cu.right b.data.toList = true ∧ b.data.toList.length = c.size) := by show _ ∧ _; rw [HBD.out]; exact HLS.out k (by rw [← HN.out]; exact hlt)
      have HLN : Hid (leftTo c.data.toList ls (k + 1) = eachTo (leftTo c.data.toList ls k) b.data.toList (leftTo c.data.toList ls k).length) := by show _ = _; rw [HBD.out]; exact leftTo_succ _ _ _
      have HCB : Hid (w.cell? ⟨g, o + k, none⟩ = some (.string b)) := by show _ = _; rw [hb]; exact HCC.out k (by rw [← HN.out]; exact hlt)
      clear hb
      obtain ⟨L, hL⟩ : ∃ L, L = leftTo c.data.toList ls k := ⟨_, rfl⟩
      have HLL := hid hL
      have HRL : Hid (∀ l ∈ L, Cu.right l = true ∧ l.length = c.size) := by rw [hL]; exact HRT.out k (by rw [← HN.out]; exact hk)
      have hLm : L.length ≤ 16384 := by rw [hL]; exact HSM.out k (Nat.le_refl _)
      rw [← hL] at HO HLN
      clear hL hown
      obtain ⟨m, hm⟩ : ∃ m, m = L.length := ⟨_, rfl⟩
      have HM := hid hm
      rw [← hm] at HO hLm
      clear hm
      have hO := HO.out
      rcases hO.2 with ⟨e7, e7'⟩ | ⟨go, co, cur, e7, _⟩
      · subst e7 e7'
        clear hO
        have HL0 : Hid (L = []) := List.length_eq_zero_iff.1 HM.out.symm
        have HLK : Hid (leftTo c.data.toList ls (k + 1) = []) := by show _ = _; rw [HLN.out, HL0.out]; rfl
        have HOP3 : Hid (wo.ownsRow w.heap.size 9 1 (.slice none 0 0) (leftTo c.data.toList ls (k + 1)).length (svs (leftTo c.data.toList ls (k + 1)))) := by
          show World.ownsRow _ _ _ _ _ _ _
          rw [HLK.out]; exact World.ownsRow_nil _ _ _ _
        go_wp2
        refine wp_loop_rounds 1 ?_
        rw [rounds_succ]
        go_wp2
        go_roundw
        case rel =>
          refine ⟨k + 1, by omega, by go_num, HOP3.out, hbl, fun i hi => ?_⟩
          by_cases e : i = k + 1
          · rw [e, HLK.out]; exact Nat.zero_le _
          · exact HSM.out i (by omega)
        case measure => simp [intOf]; omega
      · subst e7
        clear hO
        go_wp2
        go_loopw [9, 10] (fun p i wq => ∃ j : Nat, j ≤ m ∧ i = .int .i64 j ∧ wq.ownsRow wo.heap.size 9 1 p (eachTo L b.data.toList j).length (svs (eachTo L b.data.toList j)) ∧ Below wo.heap.size wo wq ∧ (eachTo L b.data.toList j).length ≤ 16384) (fun _ i _ => m - (intOf i).toNat)
        case atStart => exact ⟨0, Nat.zero_le _, rfl, World.ownsRow_nil _ _ _ _, Below.refl _ _, by simp [eachTo]⟩
        case round =>
          obtain ⟨j, hj, rfl, hownp, hbq, hle⟩ := hrel
          have HOP := hid hownp
          clear hownp
          have hwq := hbq.size
          by_cases hjm : j < m
          · have HJL : Hid (j < L.length) := by show _ < _; rw [← HM.out]; exact hjm
            have cb : wr.cell? ⟨g, o + k, none⟩ = some (.string b) := by rw [hbq.cell (by show g < wo.heap.size; omega), hbl.cell (by exact hg)]; exact HCB.out
            obtain ⟨x, hx⟩ : ∃ x, x = nth L j := ⟨_, rfl⟩
            have HXD : Hid (x.data.toList = L.getD j []) := by show _ = _; rw [hx]; rfl
            have cx : wr.cell? ⟨go, j, none⟩ = some (.string x) := by
              have hlt2 : go < wo.heap.size := (HO.out.lt go rfl).2
              rw [hbq.cell (by show go < wo.heap.size; omega), HO.out.cellAt j (by omega), hx, nth, nth_at HJL.out]
              simp [svs, List.getElem?_eq_getElem HJL.out]
            have HXR : Hid (Cu.right x.data.toList = true ∧ x.data.toList.length = c.size) := by show _ ∧ _; rw [HXD.out, nth_at HJL.out]; exact HRL.out _ (List.getElem_mem HJL.out)
            have HE2 : Hid (err2 x b = 0) := err2_of HXR.out.1 HBR.out.1 (HXR.out.2.trans HBR.out.2.symm)
            have HES : Hid (eachTo L b.data.toList (j + 1) = eachTo L b.data.toList j ++ Cu.cutL x.data.toList b.data.toList) := by show _ = _; rw [HXD.out]; exact eachTo_succ L b.data.toList HJL.out
            have hcl : (Cu.cutL x.data.toList b.data.toList).length ≤ 128 := Cu.cutL_length HXR.out.1
            have hjI : (0 : Int) ≤ (j : Int) := by omega
            have hjI2 : (j : Int) < (m : Int) := by omega
            have hkI : (0 : Int) ≤ (k : Int) := by omega
            have hkI2 : (k : Int) < (n : Int) := by omega
            have hgo : go < wo.heap.size := (HO.out.lt go rfl).2
            clear hx
            go_wp2_with fail
            go_region_held3 (fun w' => w'.cell? ⟨g, o + k, none⟩ = some (.string b) ∧ w'.cell? ⟨go, j, none⟩ = some (.string x)) (first | (go_keep; done) | exact hkeep2 | exact hkeep) (first | (refine step_append_src _ (by rfl) (.tmp 33) (.tmp 42) 39 (by rfl) wo.heap.size 9 i0 (.string ByteArray.empty) 16 Tryz.underlying39 HI.out HZ0.out HZ1.out HZ2.out rfl u9 (eachTo L b.data.toList j).length (svs (eachTo L b.data.toList j)) (by rfl) (by exact HOP2) v4 (Cu.cutL x.data.toList b.data.toList) (by rfl) (by exact HSR4) (by unfold maxLen; omega) (by omega) (by exact hsz4) ?_; intro v5 w5 hown5 hgr5; have hkeep2 : w5.cell? ⟨g, o + k, none⟩ = some (.string b) ∧ w5.cell? ⟨go, j, none⟩ = some (.string x) := ⟨(by rw [(grown_below hgr5 HOP2).cell (by show g < min wo.heap.size w4.heap.size; omega)]; exact hkeep.1), (by rw [(grown_below hgr5 HOP2).cell (by show go < min wo.heap.size w4.heap.size; omega)]; exact hkeep.2)⟩) | (go_at_call 62; refine (rcut_own x b _ HE2.out).mono ?_; rintro e w4 ⟨v4, rfl, hown4, hb4⟩; have hb4' := undrew hb4; have hkeep : w4.cell? ⟨g, o + k, none⟩ = some (.string b) ∧ w4.cell? ⟨go, j, none⟩ = some (.string x) := ⟨(by rw [hb4'.cell (by show g < wr.heap.size; omega)]; exact cb), (by rw [hb4'.cell (by show go < wr.heap.size; omega)]; exact cx)⟩; have HSR4 := src_own hown4; have HOP2 : w4.ownsRow wo.heap.size 9 1 u9 (eachTo L b.data.toList j).length (svs (eachTo L b.data.toList j)) := HOP.out.kept (grown_of_below none hb4') (by cases u9.ownBlock <;> simp); have hsz4 : wo.heap.size ≤ w4.heap.size := Nat.le_trans hwq hb4'.size))
            have HB5 : Hid (Below wo.heap.size wo w5) := (hbq.trans (hb4'.mono hwq)).grown hgr5 hsz4 (fun q hq => (HOP.out.lt q hq).1)
            rw [← List.length_append, ← svs_append, ← HES.out] at hown5
            obtain ⟨ao5, cp5, hv5⟩ := slice_of hown5
            subst hv5
            have HO5 := hid hown5
            obtain ⟨nx, hnx⟩ : ∃ nx, nx = (eachTo L b.data.toList (j + 1)).length := ⟨_, rfl⟩
            have HNX := hid hnx
            rw [← hnx]
            rw [← hnx] at HO5
            have hnxle : nx ≤ 16512 := by rw [hnx, HES.out, List.length_append]; omega
            clear hnx hown5 hgr5 hkeep hkeep2 HOP2 HSR4 hown4 hb4 hb4' cb cx
            by_cases hbig : 16384 < nx
            · have hb2 : (16384 : Int) < (nx : Int) := by omega
              have HMT : Hid (many = true) := by
                show _ = _
                rw [← HMY.out]
                refine decide_eq_true ⟨k + 1, by have := HN.out; omega, ?_⟩
                have := eachTo_mono L b.data.toList (j + 1)
                rw [HLN.out]
                rw [← HNX.out] at this
                omega
              go_wp2
              go_ret2
              refine ⟨.slice none 0 0, ?_, fun _ => rfl, (fun h => by rw [HMT.out] at h; cases h), hbl.trans (HB5.out.mono hwo)⟩
              rw [HRR.out, HMT.out]; rfl
            · have hb2 : ¬ (16384 : Int) < (nx : Int) := by omega
              go_wp2
              go_roundw
              case rel =>
                refine ⟨j + 1, by omega, by go_num, ?_, HB5.out, by rw [← HNX.out]; omega⟩
                rw [← HNX.out]
                exact HO5.out
              case measure => simp [intOf]; omega
          · have hjm3 : j = m := by omega
            have HOP3 : Hid (wr.ownsRow w.heap.size 9 1 u9 (leftTo c.data.toList ls (k + 1)).length (svs (leftTo c.data.toList ls (k + 1)))) := by
              have := own_rebase HOP.out hwo
              rw [hjm3, HM.out, ← HLN.out] at this
              exact this
            have HLK : Hid ((leftTo c.data.toList ls (k + 1)).length ≤ 16384) := by
              show _ ≤ _
              rw [HLN.out, ← HM.out, ← hjm3]; exact hle
            subst hjm3
            go_wp2
            go_roundw
            case rel =>
              refine ⟨k + 1, by omega, by go_num, HOP3.out, hbl.trans (hbq.mono hwo), fun i hi => ?_⟩
              by_cases e : i = k + 1
              · rw [e]; exact HLK.out
              · exact HSM.out i (by omega)
            case measure => simp [intOf]; omega
    · have hkn : k = n := by omega
      subst hkn
      have HMF : Hid (many = false) := by
        show _ = _
        rw [← HMY.out]
        refine decide_eq_false ?_
        rintro ⟨j, hj, h⟩
        have := HSM.out j (by rw [HN.out]; exact hj)
        omega
      have HTO := hid (row_own HO.out)
      rw [HN.out] at HTO
      go_wp2
      go_ret2
      refine ⟨u7, ?_, (fun h => by rw [HMF.out] at h; cases h), fun _ => ?_, hbl⟩
      · rw [HRR.out, HMF.out]; rfl
      · rw [HN.out]; exact HTO.out
end Go.Proofs.YtipmlcdnfaobiaaGreat.Cub
