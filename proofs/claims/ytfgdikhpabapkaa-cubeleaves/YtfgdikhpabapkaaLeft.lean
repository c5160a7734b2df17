/-
  Left: what is left of one text without several.
-/
import Derived.Test.YtfgdikhpabapkaaLeftP
namespace Go.Proofs.Ytfgdikhpabapkaa
open Go.RowKit
attribute [local go_sem ↓] Go.wp_at_zero Go.wp_at_succ

/-- append of a row of texts, nil or not. -/
theorem wpList_append_src {P : Program} (w : World) {ops : Array Oper} {rest : List Oper} {o : Oper} {a : Act} {Q : Exit → Act → World → Prop} (hgd : o.guard = none) (s x : Operand) (t : TypeId)
    (ho : o.op = .call { callee := .builtin .append, args := #[s, x], argTypes := #[t, t] })
    (base : Nat) (e : TypeId) (i : TypeInfo) (z : Value) (bytes : Nat) (ht : P.underlying t = some (.slice e)) (hi : P.info? e = some i) (hz : i.zero = some z)
    (hsize : i.size = 1) (hby : i.bytes = bytes) (hzs : z.cells.size = 1)
    (v : Value) (n : Nat) (xs : List Value) (hs : a.eval s = v) (hown : w.ownsRow base e 1 v n xs)
    (vx : Value) (ls : List (List UInt8)) (hx : a.eval x = vx) (hsrc : Src w vx ls)
    (h63 : n + ls.length ≤ maxLen) (hbytes : (n + ls.length) * bytes ≤ 140737488355328) (hbase : base ≤ w.heap.size)
    (h : ∀ v' w', w'.ownsRow base e 1 v' (n + ls.length) (xs ++ svs ls) → w.grownBy w' v.ownBlock → wpList P ops Q rest (a.put o.dst v') w') :
    wpList P ops Q (o :: rest) a w := by
  rcases hsrc with ⟨rfl, rfl⟩ | ⟨ad, cap, rfl, hc⟩
  · refine wpList_append_own_none hgd s x t ho base e i 1 ht hi v n xs hs hown hx ?_
    exact h v w (by simpa [svs] using hown) (grown_refl _ _)
  · refine wpList_append_own_at w hgd s x t ho base e i z 1 bytes ht hi hz hsize hby hzs (by decide) v n xs hs hown ad ls.length cap (svs ls) hx (by simp [svs]) (fun j u hj => (hc j u hj).2) (svs_one ls) h63 hbytes hbase ?_
    intro v' w' h1 h2 _ _
    exact h v' w' h1 h2

set_option maxHeartbeats 1000000 in
theorem Left_bad (c : ByteArray) (v : Value) (ls : List (List UInt8)) (w : World) (hs : Src w v ls) (hn : ls.length ≤ 8) (he : errL (c.data.toList :: ls) ≠ 0) :
    Calls Try.prog 21 #[.string c, v] w fun e w' => e = .returned (.tuple #[.slice none 0 0, .int .i64 (errL (c.data.toList :: ls))]) ∧ Below w.heap.size w w' := by
  have hne : (errL (c.data.toList :: ls) != 0) = true := by rw [bne_iff_ne]; exact he
  have HE := hid he
  have HS := hid hs
  clear he hs
  obtain ⟨i0, hi, hz0, hz1, hz2⟩ := info_parts Try.infoString
  have HI := hid hi
  have HZ0 := hid hz0
  have HZ1 := hid hz1
  have HZ2 := hid hz2
  clear hi hz0 hz1 hz2
  have hO1 := hid (World.ownsRow_lit (e := 9) (size := 1) w #[.string c] 1 (Nat.le_refl _) (by unfold maxLen; omega) rfl)
  go_enter Try.func21, Try.ntmps21
  go_wp2_with (first | (at_builtin; refine wpList_append_src _ rfl (.tmp 15) (.tmp 16) 29 rfl w.heap.size 9 i0 (.string ByteArray.empty) 16 Try.underlying29 HI.out HZ0.out HZ1.out HZ2.out rfl _ 1 [.string c] rfl hO1.out v ls rfl (HS.out.below ((Below.refl _ _).alloc (Nat.le_refl _) _) (Nat.le_refl _)) ?d3 ?d4 ?d5 ?_))
  case d3 => unfold maxLen; omega
  case d4 => omega
  intro v2 w2 hown2 hgr2
  rw [sv_data c] at hown2
  have R2 : Hid (Row w2 v2 (c.data.toList :: ls)) := row_own (base := w.heap.size) (by rw [List.length_cons, Nat.add_comm]; exact hown2)
  have B2 : Hid (Below w.heap.size w w2) := ((Below.refl _ _).alloc (Nat.le_refl _) _).grown hgr2 (by simp) (fun k hk => by simp [Value.ownBlock] at hk; omega)
  clear hown2 hgr2
  go_wp2_with fail
  refine (read_bad (c.data.toList :: ls) v2 w2 R2.out (by simp; omega) HE.out).mono ?_
  rintro e w3 ⟨rfl, hb3⟩
  go_wp2
  go_ret2
  exact ⟨rfl, below2 B2.out hb3⟩

theorem slice_of {w : World} {base : Nat} {e : TypeId} {size : Nat} {v : Value} {n : Nat} {xs : List Value} (h : w.ownsRow base e size v n xs) : ∃ ao cap, v = .slice ao n cap := by
  rcases h.2 with ⟨e, e2⟩ | ⟨g, c, _, e, _⟩
  · exact ⟨none, 0, by rw [e2]; exact e⟩
  · exact ⟨_, _, e⟩

/-- The box of the round is kept by the call. -/
theorem box_kept {wr w5 : World} {base : Nat} {s p0 : Value} {b : List UInt8} (hs : ∃ n xs, wr.ownsRow base 54 4 s n xs) (hp : p0.ownBlock = s.ownBlock) (hg : (wr.alloc (.cells (tc b) 54)).drew.grownBy w5 p0.ownBlock) :
    w5.cell? ⟨wr.heap.size, 0, none⟩ = some (.int .u64 (Cu.wd (Cu.fixAt b) 0 : Int)) ∧ w5.cell? ⟨wr.heap.size, 1, none⟩ = some (.int .u64 (Cu.wd (Cu.fixAt b) 1 : Int)) ∧ w5.cell? ⟨wr.heap.size, 2, none⟩ = some (.int .u64 (Cu.wd (Cu.oneAt b) 0 : Int)) ∧ w5.cell? ⟨wr.heap.size, 3, none⟩ = some (.int .u64 (Cu.wd (Cu.oneAt b) 1 : Int)) := by
  obtain ⟨n, xs, h⟩ := hs
  refine four_cell (t := 54) ?_
  refine (hg.block wr.heap.size (by simp) ?_).trans (new_0 wr _)
  rw [hp]
  intro e
  have := (h.lt _ e.symm).2
  omega

theorem left_below {w w3 wr w5 : World} {ls : List (List UInt8)} {v s p0 : Value} {o : Obj} (h3 : Below w.heap.size w w3) (h : LeftInv w3 ls v s wr) (hp : p0.ownBlock = s.ownBlock) (hg : (wr.alloc o).drew.grownBy w5 p0.ownBlock) : Below w.heap.size w w5 := by
  have hs := h.below.size
  obtain ⟨n, xs, hsp⟩ := h.spare
  have h5 : Below w3.heap.size w3 w5 := (h.below.alloc hs o).drew.grown hg (by simp; omega) (fun k hk => by rw [hp] at hk; exact (hsp.lt k hk).1)
  exact below2 h3 h5

set_option maxHeartbeats 4000000 in
theorem Left_ok (c : ByteArray) (v : Value) (ls : List (List UInt8)) (w : World) (hs : Src w v ls) (hn : ls.length ≤ 8) (he : errL (c.data.toList :: ls) = 0) (r : Int) (many : Bool) (hmany : manyB c.data.toList ls = many) (hr : r = if many = true then 3 else 0) :
    Calls Try.prog 21 #[.string c, v] w fun e w' => ∃ v', e = .returned (.tuple #[v', .int .i64 r]) ∧ (many = true → v' = .slice none 0 0) ∧ (many = false → Texts w' v' (leftTo c.data.toList ls ls.length)) ∧ Below w.heap.size w w' := by
  have HE := hid he
  have HS := hid hs
  have HMY := hid hmany
  have HRR := hid hr
  obtain ⟨e1, e2⟩ := errL_zero he
  have HC : Hid (Cu.right c.data.toList = true ∧ c.data.toList.length = c.size) := ⟨e1 0 (by simp), rfl⟩
  have HLS : Hid (∀ i, i < ls.length → Cu.right (ls.getD i []) = true ∧ (ls.getD i []).length = c.size) := fun i hi =>
    ⟨by have := e1 (i + 1) (by simp; omega); simpa using this, by have := e2 (i + 1) (by simp; omega); simpa using this⟩
  have HRT : Hid (∀ k, k ≤ ls.length → ∀ l ∈ leftTo c.data.toList ls k, Cu.right l = true ∧ l.length = c.size) := leftTo_right HC.out HLS.out
  clear he hs hmany hr e1 e2
  obtain ⟨i0, hi, hz0, hz1, hz2⟩ := info_parts Try.infoString
  have HI := hid hi
  have HZ0 := hid hz0
  have HZ1 := hid hz1
  have HZ2 := hid hz2
  clear hi hz0 hz1 hz2
  have hO1 := hid (World.ownsRow_lit (e := 9) (size := 1) w #[.string c] 1 (Nat.le_refl _) (by unfold maxLen; omega) rfl)
  go_enter Try.func21, Try.ntmps21
  go_wp2_with (first | (at_builtin; refine wpList_append_src _ rfl (.tmp 15) (.tmp 16) 29 rfl w.heap.size 9 i0 (.string ByteArray.empty) 16 Try.underlying29 HI.out HZ0.out HZ1.out HZ2.out rfl _ 1 [.string c] rfl hO1.out v ls rfl (HS.out.below ((Below.refl _ _).alloc (Nat.le_refl _) _) (Nat.le_refl _)) ?d3 ?d4 ?d5 ?_))
  case d3 => unfold maxLen; omega
  case d4 => omega
  intro v2 w2 hown2 hgr2
  rw [sv_data c] at hown2
  have R2 : Hid (Row w2 v2 (c.data.toList :: ls)) := row_own (base := w.heap.size) (by rw [List.length_cons, Nat.add_comm]; exact hown2)
  have B2 : Hid (Below w.heap.size w w2) := ((Below.refl _ _).alloc (Nat.le_refl _) _).grown hgr2 (by simp) (fun k hk => by simp [Value.ownBlock] at hk; omega)
  clear hown2 hgr2
  obtain ⟨n, hnn⟩ : ∃ n, n = ls.length := ⟨_, rfl⟩
  have HN := hid hnn
  go_wp2_with fail
  have q := read_ok (c.data.toList :: ls) v2 w2 R2.out (by simp) (by simp; omega) HE.out
  rw [List.length_cons, ← hnn] at q
  refine q.mono ?_
  clear q
  rw [← hnn] at hn
  clear hnn
  rintro e w3 ⟨rfl, ⟨cs, hg, hsz, hlie⟩, hb3⟩
  have HG := hid hg
  have B3 := hid (below2 B2.out hb3)
  obtain ⟨t0, t1, t2, t3⟩ := lie_four hg hlie (k := 0) (by omega)
  have hgs := lt_of_block hg
  clear hg hb3
  rw [Nat.zero_mul] at t0 t1 t2 t3
  have L0 : Hid (by_ (nth (c.data.toList :: ls)) 0 = c.data.toList) := rfl
  rw [L0.out] at t0 t1 t2 t3
  have L1 : Hid (∀ k, by_ (nth (c.data.toList :: ls)) (k + 1) = ls.getD k []) := fun k => rfl
  have HO1 := hid (World.ownsRow_lit (e := 54) (size := 4) w3 (tc c.data.toList) 1 (Nat.le_refl _) (by unfold maxLen; omega) rfl)
  have I0 : Hid (LeftInv w3 (leftTo c.data.toList ls 0) (.slice (some ⟨w3.heap.size, 0, none⟩) 1 1) (.slice none 0 0) (w3.alloc (.cells (tc c.data.toList) 54))) :=
    ⟨by rw [leftTo, flat_one]; exact HO1.out, ⟨0, [], World.ownsRow_nil _ _ _ _⟩, fun g _ => by simp [Value.ownBlock], (Below.refl _ _).alloc (Nat.le_refl _) _⟩
  by_cases hn0 : n = 0
  · subst hn0
    have hls : ls = [] := List.length_eq_zero_iff.1 HN.out.symm
    have HMF : Hid (many = false) := by
      show _ = _
      rw [← HMY.out, hls]
      refine decide_eq_false ?_
      rintro ⟨k, hk, h⟩
      have : k = 0 := by simpa using hk
      subst this
      simp [leftTo] at h
    have HLT : Hid (leftTo c.data.toList ls ls.length = [c.data.toList]) := by show _ = _; rw [hls]; rfl
    clear hls
    go_wp2
    refine wp_loop_rounds 1 ?_
    rw [rounds_succ]
    go_wp2_with fail
    have q := texts_own [c.data.toList] (.slice (some ⟨w3.heap.size, 0, none⟩) 1 1) w3.heap.size 1 c.size (w3.alloc (.cells (tc c.data.toList) 54)) (by rw [flat_one]; exact HO1.out) rfl (by omega) (fun l hl => by rw [List.mem_singleton] at hl; subst hl; exact HC.out)
    refine q.mono ?_
    clear q
    rintro e w4 ⟨v4, rfl, ht4, hb4⟩
    have HT4 := hid ht4
    clear ht4
    go_wp2
    go_ret2
    refine ⟨v4, ?_, (fun h => by rw [HMF.out] at h; cases h), fun _ => by rw [HLT.out]; exact HT4.out, below2 B3.out (((Below.refl _ _).alloc (Nat.le_refl _) _).trans (hb4.mono (by simp)))⟩
    rw [HRR.out, HMF.out]; rfl
  · have hcap : ¬ (n + 1 = 1) := by omega
    go_wp2
    go_loopw [8, 9, 31] (fun p s i wr => ∃ k : Nat, k ≤ n ∧ i = .int .i64 k ∧ LeftInv w3 (leftTo c.data.toList ls k) p s wr ∧ Hid (∀ j, j ≤ k → (leftTo c.data.toList ls j).length ≤ 16384)) (fun _ _ i _ => n - (intOf i).toNat)
    case atStart =>
      refine ⟨0, Nat.zero_le _, rfl, I0.out, fun j hj => ?_⟩
      have e : j = 0 := by omega
      subst e
      simp [leftTo]
    case round =>
      obtain ⟨k, hk, rfl, inv, HSM⟩ := hrel
      have J0 := hid inv
      clear inv I0 t0 t1 t2 t3
      have hws := J0.out.below.size
      have HKL : Hid (k ≤ ls.length) := by show _ ≤ _; rw [← HN.out]; exact hk
      by_cases hlt : k < n
      · obtain ⟨b, hb⟩ : ∃ b, b = ls.getD k [] := ⟨_, rfl⟩
        have HBR : Hid (Cu.right b = true ∧ b.length = c.size) := by show _ ∧ _; rw [hb]; exact HLS.out k (by rw [← HN.out]; exact hlt)
        have HLN : Hid (leftTo c.data.toList ls (k + 1) = eachTo (leftTo c.data.toList ls k) b (leftTo c.data.toList ls k).length) := by show _ = _; rw [hb]; exact leftTo_succ _ _ _
        obtain ⟨y0, y1, y2, y3⟩ := lie_four (below_block J0.out.below HG.out hgs) hlie (k := k + 1) (by omega)
        rw [L1.out, ← hb] at y0 y1 y2 y3
        rw [show (k + 1) * 4 = 4 + k * 4 from by omega] at y0 y1 y2 y3
        clear hb
        obtain ⟨ns, xs9, hsp⟩ := J0.out.spare
        rcases hsp.2 with ⟨e9, e9'⟩ | ⟨gs, caps, cur, e9, _⟩
        · subst e9
          clear hsp e9'
          go_wp2_with fail
          go_region_held3 (fun w' => w'.cell? ⟨wr.heap.size, 0, none⟩ = some (.int .u64 (Cu.wd (Cu.fixAt b) 0 : Int)) ∧ w'.cell? ⟨wr.heap.size, 1, none⟩ = some (.int .u64 (Cu.wd (Cu.fixAt b) 1 : Int)) ∧ w'.cell? ⟨wr.heap.size, 2, none⟩ = some (.int .u64 (Cu.wd (Cu.oneAt b) 0 : Int)) ∧ w'.cell? ⟨wr.heap.size, 3, none⟩ = some (.int .u64 (Cu.wd (Cu.oneAt b) 1 : Int))) (first | (go_keep; done) | exact hbx) (first | (go_at_call 37; refine (cutEach_all (leftTo c.data.toList ls k) b c.size u8 (.slice none 0 0) w3.heap.size _ HBR.out.1 HBR.out.2 (HRT.out k HKL.out) (by exact (J0.out.own.alloc _).drew) (World.ownsRow_nil _ _ _ _) (fun _ _ => by simp [Value.ownBlock]) (by simp; omega) (HSM.out k (Nat.le_refl _))).mono ?_; rintro e w5 ⟨v5, m5, rfl, hm5, hor5, hown5, hgr5, hat5⟩; have hbx := box_kept (J0.out.spare) (by exact rfl) hgr5; obtain ⟨ao5, cp5, hv5⟩ := slice_of hown5; subst hv5))
          obtain ⟨nx, hnx⟩ : ∃ nx, nx = (eachTo (leftTo c.data.toList ls k) b m5).length := ⟨_, rfl⟩
          have HNX := hid hnx
          rw [← hnx]
          clear hnx
          by_cases hbig : (leftTo c.data.toList ls (k + 1)).length ≤ 16384
          · have hm : m5 = (leftTo c.data.toList ls k).length := by
              rcases hor5 with e | e
              · exact e
              · exfalso
                have := eachTo_mono (leftTo c.data.toList ls k) b m5
                rw [HLN.out] at hbig
                omega
            have HO5 : Hid (w5.ownsRow w3.heap.size 54 4 (.slice ao5 nx cp5) (leftTo c.data.toList ls (k + 1)).length (flat (leftTo c.data.toList ls (k + 1)))) := by
              show World.ownsRow _ _ _ _ _ _ _
              rw [HLN.out, HNX.out]
              rw [hm] at hown5 ⊢
              exact hown5
            have hnx2 : ¬ (16384 : Int) < (nx : Int) := by
              have : nx = (leftTo c.data.toList ls (k + 1)).length := by rw [HNX.out, hm, HLN.out]
              omega
            have J1 : Hid (LeftInv w3 (leftTo c.data.toList ls (k + 1)) (.slice ao5 nx cp5) u8 w5) := J0.out.next (p0 := .slice none 0 0) rfl HO5.out hgr5 (by rw [HNX.out]; exact hat5)
            have HBG := hid hbig
            clear hm hor5 hm5 hown5 hgr5 hat5 hbig hbx
            go_wp2
            go_roundw
            case rel =>
              refine ⟨k + 1, by omega, by go_num, J1.out, fun j hj => ?_⟩
              by_cases e : j = k + 1
              · rw [e]; exact HBG.out
              · exact HSM.out j (by omega)
            case measure => simp [intOf]; omega
          · have hnx2 : (16384 : Int) < (nx : Int) := by
              rcases hor5 with e | e
              · have : nx = (leftTo c.data.toList ls (k + 1)).length := by rw [HNX.out, e, HLN.out]
                omega
              · rw [← HNX.out] at e; omega
            have HMT : Hid (many = true) := by
              show _ = _
              rw [← HMY.out]
              exact decide_eq_true ⟨k + 1, by have := HN.out; omega, by omega⟩
            have B5 : Hid (Below w.heap.size w w5) := left_below B3.out J0.out rfl hgr5
            clear hor5 hm5 hown5 hgr5 hat5 hbig hbx
            go_wp2
            go_ret2
            refine ⟨.slice none 0 0, ?_, fun _ => rfl, (fun h => by rw [HMT.out] at h; cases h), B5.out⟩
            rw [HRR.out, HMT.out]; rfl
        · subst e9
          have HSP := hid hsp
          clear hsp
          go_wp2_with fail
          go_region_held3 (fun w' => w'.cell? ⟨wr.heap.size, 0, none⟩ = some (.int .u64 (Cu.wd (Cu.fixAt b) 0 : Int)) ∧ w'.cell? ⟨wr.heap.size, 1, none⟩ = some (.int .u64 (Cu.wd (Cu.fixAt b) 1 : Int)) ∧ w'.cell? ⟨wr.heap.size, 2, none⟩ = some (.int .u64 (Cu.wd (Cu.oneAt b) 0 : Int)) ∧ w'.cell? ⟨wr.heap.size, 3, none⟩ = some (.int .u64 (Cu.wd (Cu.oneAt b) 1 : Int))) (first | (go_keep; done) | exact hbx) (first | (go_at_call 37; refine (cutEach_all (leftTo c.data.toList ls k) b c.size u8 (.slice (some ⟨gs, 0, none⟩) 0 caps) w3.heap.size _ HBR.out.1 HBR.out.2 (HRT.out k HKL.out) (by exact (J0.out.own.alloc _).drew) (by exact ((spare_zero HSP.out).alloc _).drew) (fun q hq => by have := J0.out.ne q hq; simpa [Value.ownBlock] using this) (by simp; omega) (HSM.out k (Nat.le_refl _))).mono ?_; rintro e w5 ⟨v5, m5, rfl, hm5, hor5, hown5, hgr5, hat5⟩; have hbx := box_kept (J0.out.spare) (by exact rfl) hgr5; obtain ⟨ao5, cp5, hv5⟩ := slice_of hown5; subst hv5))
          obtain ⟨nx, hnx⟩ : ∃ nx, nx = (eachTo (leftTo c.data.toList ls k) b m5).length := ⟨_, rfl⟩
          have HNX := hid hnx
          rw [← hnx]
          clear hnx
          by_cases hbig : (leftTo c.data.toList ls (k + 1)).length ≤ 16384
          · have hm : m5 = (leftTo c.data.toList ls k).length := by
              rcases hor5 with e | e
              · exact e
              · exfalso
                have := eachTo_mono (leftTo c.data.toList ls k) b m5
                rw [HLN.out] at hbig
                omega
            have HO5 : Hid (w5.ownsRow w3.heap.size 54 4 (.slice ao5 nx cp5) (leftTo c.data.toList ls (k + 1)).length (flat (leftTo c.data.toList ls (k + 1)))) := by
              show World.ownsRow _ _ _ _ _ _ _
              rw [HLN.out, HNX.out]
              rw [hm] at hown5 ⊢
              exact hown5
            have hnx2 : ¬ (16384 : Int) < (nx : Int) := by
              have : nx = (leftTo c.data.toList ls (k + 1)).length := by rw [HNX.out, hm, HLN.out]
              omega
            have J1 : Hid (LeftInv w3 (leftTo c.data.toList ls (k + 1)) (.slice ao5 nx cp5) u8 w5) := J0.out.next (p0 := .slice (some ⟨gs, 0, none⟩) 0 caps) rfl HO5.out hgr5 (by rw [HNX.out]; exact hat5)
            have HBG := hid hbig
            clear hm hor5 hm5 hown5 hgr5 hat5 hbig hbx
            go_wp2
            go_roundw
            case rel =>
              refine ⟨k + 1, by omega, by go_num, J1.out, fun j hj => ?_⟩
              by_cases e : j = k + 1
              · rw [e]; exact HBG.out
              · exact HSM.out j (by omega)
            case measure => simp [intOf]; omega
          · have hnx2 : (16384 : Int) < (nx : Int) := by
              rcases hor5 with e | e
              · have : nx = (leftTo c.data.toList ls (k + 1)).length := by rw [HNX.out, e, HLN.out]
                omega
              · rw [← HNX.out] at e; omega
            have HMT : Hid (many = true) := by
              show _ = _
              rw [← HMY.out]
              exact decide_eq_true ⟨k + 1, by have := HN.out; omega, by omega⟩
            have B5 : Hid (Below w.heap.size w w5) := left_below B3.out J0.out rfl hgr5
            clear hor5 hm5 hown5 hgr5 hat5 hbig hbx
            go_wp2
            go_ret2
            refine ⟨.slice none 0 0, ?_, fun _ => rfl, (fun h => by rw [HMT.out] at h; cases h), B5.out⟩
            rw [HRR.out, HMT.out]; rfl
      · have hkn : k = n := by omega
        subst hkn
        have HMF : Hid (many = false) := by
          show _ = _
          rw [← HMY.out]
          refine decide_eq_false ?_
          rintro ⟨j, hj, h⟩
          have := HSM.out j (by rw [HN.out]; exact hj)
          omega
        have HTO := hid (J0.out.own)
        rw [HN.out] at HTO
        go_wp2_with fail
        have q := texts_own (leftTo c.data.toList ls ls.length) u8 w3.heap.size _ c.size wr HTO.out rfl (Nat.le_trans (HSM.out ls.length (by rw [← HN.out]; exact Nat.le_refl _)) (by omega)) (HRT.out ls.length (Nat.le_refl _))
        refine q.mono ?_
        clear q
        rintro e w4 ⟨v4, rfl, ht4, hb4⟩
        have HT4 := hid ht4
        clear ht4
        go_wp2
        go_ret2
        refine ⟨v4, ?_, (fun h => by rw [HMF.out] at h; cases h), fun _ => HT4.out, (B3.out.trans (J0.out.below.mono B3.out.size)).trans (hb4.mono (Nat.le_trans B3.out.size hws))⟩
        rw [HRR.out, HMF.out]; rfl
end Go.Proofs.Ytfgdikhpabapkaa
