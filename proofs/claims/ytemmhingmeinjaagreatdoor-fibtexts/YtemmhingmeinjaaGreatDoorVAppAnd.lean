/-
  The document's After, of a rule that is taken away: the walk.
-/
import Derived.Test.YtemmhingmeinjaaGreatDoorUDocPAnd
import Derived.Test.YtemmhingmeinjaaGreatDoorUCopyAnd
import Derived.BigQuiet
import Derived.Test.YtemmhingmeinjaaGreatDoorVInsDAnd
import Derived.Test.YtemmhingmeinjaaGreatDoorVMathAnd
namespace Go.Proofs.YtemmhingmeinjaaGreatDoor
open Go.RowKit

theorem run_app_none {P : Program} {w : World} (base : Nat) (t ty e : TypeId) (i : TypeInfo) (size c : Nat) (ht : P.underlying t = some (.slice e)) (hi : P.info? e = some i)
    (v : Value) (n : Nat) (xs : List Value) (hown : w.ownsRow base e size v n xs) :
    (Builtin.append_ #[t, t] ty #[v, .slice none 0 c]).run P w = .ok v w := by
  rcases hown.2 with ⟨rfl, rfl⟩ | ⟨g, cap, cur, rfl, _, _, hnc, _⟩
  · simp [Builtin.append_, run_underlying ht, sizeOf, typeInfo, hi, Builtin.lenOf, Builtin.firstCells]
  · simp [Builtin.append_, run_underlying ht, sizeOf, typeInfo, hi, Builtin.lenOf, Builtin.firstCells, hnc, storeCells]
theorem wpList_append_srcC {P : Program} (w : World) {ops : Array Oper} {rest : List Oper} {o : Oper} {a : Act} {Q : Exit → Act → World → Prop} (hgd : o.guard = none) (s x : Operand) (t : TypeId)
    (ho : o.op = .call { callee := .builtin .append, args := #[s, x], argTypes := #[t, t] })
    (base : Nat) (e : TypeId) (i : TypeInfo) (z : Value) (size bytes : Nat) (ht : P.underlying t = some (.slice e)) (hi : P.info? e = some i) (hz : i.zero = some z)
    (hsize : i.size = size) (hby : i.bytes = bytes) (hzs : z.cells.size = size) (hsz : 0 < size)
    (v : Value) (n : Nat) (xs : List Value) (hs : a.eval s = v) (hown : w.ownsRow base e size v n xs)
    (vx : Value) (m : Nat) (news : List Value) (hx : a.eval x = vx) (hsrc : (∃ c, vx = .slice none 0 c ∧ m = 0 ∧ news = []) ∨ ∃ ad c, vx = .slice (some ad) m c ∧ news.length = m * size ∧ ∀ j u, news[j]? = some u → w.cell? (ad.add j) = some u) (h1 : ∀ u ∈ news, u.oneCell' = true)
    (h63 : n + m ≤ maxLen) (hbytes : (n + m) * bytes ≤ 140737488355328) (hbase : base ≤ w.heap.size)
    (h : ∀ v' w', w'.ownsRow base e size v' (n + m) (xs ++ news) → w.grownBy w' v.ownBlock → wpList P ops Q rest (a.put o.dst v') w') :
    wpList P ops Q (o :: rest) a w := by
  rcases hsrc with ⟨c, rfl, rfl, rfl⟩ | ⟨ad, c, rfl, hl, hc⟩
  · refine wpList_plain hgd fun K hK => ?_
    have hrun := run_app_none (P := P) (w := w) base t o.type e i size c ht hi v n xs hown
    unfold Oper.wp
    simp [execOp, ho, resolve, invoke, builtin, hs, hx, hrun, Result.andThen]
    exact hK _ _ (h v w (by simpa using hown) (grown_refl _ _))
  · refine wpList_append_own_at w hgd s x t ho base e i z size bytes ht hi hz hsize hby hzs hsz v n xs hs hown ad m c news hx hl hc h1 h63 hbytes hbase ?_
    intro v' w' h1 h2 _ _
    exact h v' w' h1 h2
theorem Tryz.infoStrV : (Tryz.prog.info? 9).map (fun i => (i.zero, i.size, i.bytes)) = some (some (.string (tx [])), 1, 16) := by kernel_rfl
theorem ported_own {w : World} {B : Nat} {v : Value} {zs : List (List UInt8)} (h : w.ownsRow B 9 1 v zs.length (zs.map fun z => .string (tx z))) : Ported w B v zs := by
  rcases h.2 with ⟨e, h0⟩ | ⟨g, cap, cur, e, hB, hh, hn, _, _, ht⟩
  · have : zs = [] := List.length_eq_zero_iff.1 h0
    subst this
    exact ⟨none, 0, e, Nat.le_refl _, Or.inl rfl⟩
  · refine ⟨_, cap, e, hn, Or.inr ⟨g, rfl, hB, cur, hh, fun i z hz => ?_⟩⟩
    have hi : i < zs.length := (List.getElem?_eq_some_iff.1 hz).1
    have : (cur.toList.take (zs.length * 1))[i]? = some (.string (tx z)) := by rw [ht, List.getElem?_map, hz]; rfl
    rw [List.getElem?_take, if_pos (by omega)] at this
    simpa using this
theorem Ported.grew {w w' : World} {B : Nat} {v : Value} {zs : List (List UInt8)} {row : Option Nat} (h : Ported w B v zs) (hg : w.grownBy w' row) (hr : ∀ b, row = some b → ∃ cs, w.heap[b]? = some (.cells cs 51 (0, 0))) : Ported w' B v zs := by
  obtain ⟨ao, cap, e1, e2, q | ⟨b, e3, e4, cs, e5, e6⟩⟩ := h
  · exact ⟨ao, cap, e1, e2, Or.inl q⟩
  · refine ⟨ao, cap, e1, e2, Or.inr ⟨b, e3, e4, cs, ?_, e6⟩⟩
    rw [hg.block b (lt_of_block e5) (fun e => by
      obtain ⟨cs', hc⟩ := hr b e.symm
      exact ne_type e5 hc (by decide) rfl)]
    exact e5
end Go.Proofs.YtemmhingmeinjaaGreatDoor
namespace Go.Proofs.YtemmhingmeinjaaGreatDoor
open Go.RowKit

def atN (L : List Raw) (r : Raw) : Int := match L.findIdx? (fun a => keyB a r) with
  | some j => (j : Int)
  | none => -1
theorem atN_at {L : List Raw} {r a : Raw} {j : Nat} (h : L[j]? = some a) (hk : keyB a r = true) (hno : ∀ b ∈ L.take j, keyB b r = false) : atN L r = (j : Int) := by
  have : L.findIdx? (fun a => keyB a r) = some j := by
    rw [List.findIdx?_eq_some_iff_getElem]
    obtain ⟨hj, e⟩ := List.getElem?_eq_some_iff.1 h
    refine ⟨hj, by rw [e]; exact hk, fun i hi => ?_⟩
    rw [hno _ (List.mem_take_iff_getElem.2 ⟨i, by omega, rfl⟩)]
    decide
  unfold atN
  rw [this]
theorem atN_none {L : List Raw} {r : Raw} (hno : ∀ b ∈ L, keyB b r = false) : atN L r = -1 := by
  have : L.findIdx? (fun a => keyB a r) = none := by
    rw [List.findIdx?_eq_none_iff]
    exact hno
  unfold atN
  rw [this]
theorem atN_nonneg {L : List Raw} {r : Raw} : decide (0 ≤ atN L r) = L.any fun a => keyB a r := by
  unfold atN
  cases h : L.findIdx? (fun a => keyB a r) with
  | some j =>
    obtain ⟨hj, hk, _⟩ := List.findIdx?_eq_some_iff_getElem.1 h
    rw [show (L.any fun a => keyB a r) = true from List.any_eq_true.2 ⟨_, List.getElem_mem hj, hk⟩]
    simp
  | none =>
    have := List.findIdx?_eq_none_iff.1 h
    rw [show (L.any fun a => keyB a r) = false from by
      cases q : L.any fun a => keyB a r with
      | false => rfl
      | true =>
        obtain ⟨a, ha, hk⟩ := List.any_eq_true.1 q
        rw [this a ha] at hk
        cases hk]
    rfl

set_option maxRecDepth 4000 in
set_option maxHeartbeats 2000000 in
theorem Rat_any {w : World} {B n c : Nat} {ao : Option Addr} {ps : List (Raw × Value)} (ho : OwnR w B (.slice ao n c) ps) (hn : ps.length = n) (h60 : n ≤ 4096) (p k : Int) (m : List UInt8) (u : Option Addr) (un uc : Nat) (zs : List (List UInt8)) :
    Calls Tryz.prog 52 #[.slice ao n c, .agg #[.int .i64 p, .string (tx m), .int .i64 k, .slice u un uc]] w fun en w' => en = .returned (.int .i64 (atN (ps.map Prod.fst) ⟨p, m, k, zs⟩)) ∧ Below w.heap.size w w' := by
  have HO := hid ho
  have HN := hid hn
  clear ho hn
  go_enter Tryz.func52, Tryz.ntmps52
  go_wp2_with fail
  go_loopw [5] (fun i wr => ∃ j : Nat, j ≤ n ∧ i = .int .i64 j ∧ Hid ((∀ b ∈ (ps.map Prod.fst).take j, keyB b ⟨p, m, k, zs⟩ = false) ∧ wr.heap[w.heap.size]? = some (rob p (tx m) k (.slice u un uc)) ∧ Below w.heap.size w wr)) (fun i _ => n - (intOf i).toNat)
  case atStart => exact ⟨0, Nat.zero_le _, rfl, fun b hb => by simp at hb, new_0 _ _, (Below.refl _ _).alloc (Nat.le_refl _) _⟩
  case round =>
    obtain ⟨j, hj, rfl, HJ⟩ := hrel
    by_cases hlt : j < n
    · obtain ⟨q, hq⟩ : ∃ q, ps[j]? = some q := ⟨ps[j]'(by rw [HN.out]; exact hlt), List.getElem?_eq_getElem _⟩
      have hq1 : (ps.map Prod.fst)[j]? = some q.1 := by rw [List.getElem?_map, hq]; rfl
      obtain ⟨g, rfl⟩ : ∃ g, ao = some ⟨g, 0, none⟩ := by
        obtain ⟨lo, lc, e, _, hf⟩ := HO.out.form
        injection e with e1 _ _
        subst e1
        rcases hf with ⟨_, h0⟩ | ⟨g, h1, _⟩
        · rw [h0] at hq; simp at hq
        · exact ⟨g, h1⟩
      obtain ⟨c1, c2, _, _⟩ := (HO.out.on HJ.out.2.2).cells hq
      obtain ⟨d0, d1, _, _, _, _, _, _⟩ := rob_cells HJ.out.2.1
      have HTK := hid (show (ps.map Prod.fst).take (j + 1) = (ps.map Prod.fst).take j ++ [q.1] by rw [List.take_add_one, hq1]; rfl)
      have HQ1 := hid hq1
      have hkI : (j : Int) < (n : Int) := by omega
      have hk0 : (0 : Int) ≤ (j : Int) := by omega
      obtain ⟨⟨p', m', k', z'⟩, uv⟩ := q
      simp only at c1 c2 HTK HQ1
      clear hq hq1
      by_cases e1 : p' = p
      · have b1 : (p' == p) = true := by rw [beq_iff_eq]; exact e1
        by_cases e2 : m' = m
        · have b2 : (m' == m) = true := by simpa using e2
          have HR := hid (show atN (ps.map Prod.fst) ⟨p, m, k, zs⟩ = (j : Int) from atN_at HQ1.out (by unfold keyB; simp [e1, e2]) HJ.out.1)
          clear e1 e2
          go_wp2
          go_quiet (fail)
          go_wp2
          go_ret
          exact ⟨by rw [HR.out]; rfl, below_drewN HJ.out.2.2⟩
        · have b2 : (m' == m) = false := by simpa using e2
          have HNN := hid (show ∀ b ∈ (ps.map Prod.fst).take (j + 1), keyB b ⟨p, m, k, zs⟩ = false from fun b hb => by
            rw [HTK.out] at hb
            rcases List.mem_append.1 hb with hb | hb
            · exact HJ.out.1 b hb
            · rw [List.mem_singleton.1 hb]; unfold keyB; simp [e2])
          clear e1 e2
          go_wp2
          go_quiet (fail)
          go_wp2
          go_roundw
          case rel => exact ⟨j + 1, by omega, by go_num, HNN.out, HJ.out.2.1, below_drewN HJ.out.2.2⟩
          case measure => simp [intOf]; omega
      · have b1 : (p' == p) = false := by rw [beq_eq_false_iff_ne]; exact e1
        have HNN := hid (show ∀ b ∈ (ps.map Prod.fst).take (j + 1), keyB b ⟨p, m, k, zs⟩ = false from fun b hb => by
          rw [HTK.out] at hb
          rcases List.mem_append.1 hb with hb | hb
          · exact HJ.out.1 b hb
          · rw [List.mem_singleton.1 hb]; unfold keyB; simp [e1])
        clear e1
        go_wp2
        go_quiet (fail)
        go_wp2
        go_roundw
        case rel => exact ⟨j + 1, by omega, by go_num, HNN.out, HJ.out.2.1, below_drewN HJ.out.2.2⟩
        case measure => simp [intOf]; omega
    · have hjn : j = n := by omega
      have HR := hid (show atN (ps.map Prod.fst) ⟨p, m, k, zs⟩ = -1 from atN_none (fun b hb => HJ.out.1 b (by rw [List.take_of_length_le (by rw [List.length_map, HN.out]; omega)]; exact hb)))
      have hkI : ¬ ((j : Int) < (n : Int)) := by omega
      clear hlt hjn
      go_wp2
      go_ret
      exact ⟨by rw [HR.out]; rfl, HJ.out.2.2⟩

set_option maxRecDepth 20000 in
set_option maxHeartbeats 2000000 in
theorem RCopy_any {w : World} {p k : Int} {m : List UInt8} {v : Value} {zs : List (List UInt8)} (ht : Txs w v zs) (hz : zs.length * 16 ≤ 140737488355328) :
    Calls Tryz.prog 53 #[.agg #[.int .i64 p, .string (tx m), .int .i64 k, v]] w fun e w' => ∃ ao n c, e = .returned (.agg #[.int .i64 p, .string (tx m), .int .i64 k, .slice ao n c]) ∧ Hid (Ported w' w.heap.size (.slice ao n c) zs) ∧ Below w.heap.size w w' := by
  have HT := hid ht
  obtain ⟨ao, cap, rfl, hr⟩ := ht
  obtain ⟨n, hn⟩ : ∃ n, n = zs.length := ⟨_, rfl⟩
  have HN := hid hn
  rw [← hn] at hz HT ⊢
  obtain ⟨i0, hi, hz0, hz1, hz2⟩ := info_parts Tryz.infoStrV
  have HI := hid hi
  have HZ0 := hid hz0
  have HZ1 := hid hz1
  have HZ2 := hid hz2
  obtain ⟨W3, hW3⟩ : ∃ W3, W3 = ((w.alloc (rob p (tx m) k (.slice ao n cap))).alloc (rob 0 (tx []) 0 (.slice none 0 0))).alloc (.cells #[] 9) := ⟨_, rfl⟩
  have HB3 := hid (show Below w.heap.size w W3 by rw [hW3]; exact (((Below.refl _ _).alloc (Nat.le_refl _) _).alloc (by simp) _).alloc (by simp; omega) _)
  have HSZ := hid (show W3.heap.size = w.heap.size + 3 by rw [hW3]; simp)
  have HR1 := hid (show W3.heap[w.heap.size]? = some (rob p (tx m) k (.slice ao n cap)) by rw [hW3]; exact new_old _ _ (new_old _ _ (new_0 _ _)))
  have HR2 := hid (show W3.heap[w.heap.size + 1]? = some (rob 0 (tx []) 0 (.slice none 0 0)) by rw [hW3]; exact new_old _ _ (new_1 _ _ _))
  have HR3 := hid (show W3.ownsRow w.heap.size 9 1 (.slice (some ⟨w.heap.size + 2, 0, none⟩) 0 0) 0 [] from ⟨rfl, Or.inr ⟨w.heap.size + 2, 0, #[], rfl, by omega, by rw [hW3]; have := new_0 ((w.alloc (rob p (tx m) k (.slice ao n cap))).alloc (rob 0 (tx []) 0 (.slice none 0 0))) (.cells #[] 9); simpa using this, Nat.le_refl _, Nat.zero_le _, rfl, rfl⟩⟩)
  have HSRC := hid (show (∃ c, (.slice ao n cap : Value) = .slice none 0 c ∧ n = 0 ∧ zs.map (fun z => Value.string (tx z)) = []) ∨ ∃ ad c, (.slice ao n cap : Value) = .slice (some ad) n c ∧ (zs.map fun z => Value.string (tx z)).length = n * 1 ∧ ∀ j u, (zs.map fun z => Value.string (tx z))[j]? = some u → W3.cell? (ad.add j) = some u from by
    cases ao with
    | none =>
      have h0 : zs = [] := by rcases hr with q | ⟨g, o, q, _⟩; exact q; cases q
      subst h0
      have hn0 : n = 0 := HN.out
      exact Or.inl ⟨cap, by rw [hn0], hn0, rfl⟩
    | some ad =>
      refine Or.inr ⟨ad, cap, rfl, by simp [HN.out], fun j u hj => ?_⟩
      rw [List.getElem?_map, Option.map_eq_some_iff] at hj
      obtain ⟨z, hz, rfl⟩ := hj
      have hjl : j < zs.length := (List.getElem?_eq_some_iff.1 hz).1
      rcases hr with q | ⟨g, o, q, hg, hc⟩
      · rw [q] at hz; simp at hz
      · cases q
        rw [addr_add5, HB3.out.cell (by exact hg), hc j hjl, List.getD_eq_getElem?_getD, hz]
        rfl)
  have H1 := hid (show ∀ u ∈ zs.map (fun z => Value.string (tx z)), u.oneCell' = true from fun u hu => by obtain ⟨z, _, rfl⟩ := List.mem_map.1 hu; rfl)
  have HF := hid (show ∀ (v4 : Value) (w4 : World), w4.ownsRow w.heap.size 9 1 v4 (0 + n) ([] ++ zs.map fun z => Value.string (tx z)) → W3.grownBy w4 (Value.slice (some ⟨w.heap.size + 2, 0, none⟩) 0 0).ownBlock → ∃ ao4 c4, v4 = .slice ao4 n c4 ∧ Ported w4 w.heap.size (.slice ao4 n c4) zs ∧ w4.heap[w.heap.size]? = some (rob p (tx m) k (.slice ao n cap)) ∧ w4.heap[w.heap.size + 1]? = some (rob 0 (tx []) 0 (.slice none 0 0)) ∧ Below w.heap.size w w4 from fun v4 w4 ho hg => by
    rw [Nat.zero_add, List.nil_append, HN.out] at ho
    have hp := ported_own ho
    obtain ⟨ao4, c4, e4, _⟩ := hp
    rw [← HN.out] at e4
    subst e4
    refine ⟨ao4, c4, rfl, ported_own ho, ?_, ?_, HB3.out.grown hg HB3.out.size (fun b hb => by have := ownB_new hb; omega)⟩
    · rw [hg.block _ (by rw [HSZ.out]; omega) (fun e => by have := ownB_new e.symm; omega)]; exact HR1.out
    · rw [hg.block _ (by rw [HSZ.out]; omega) (fun e => by have := ownB_new e.symm; omega)]; exact HR2.out)
  obtain ⟨a0, a1, a2, a3, _, _, _, _⟩ := rob_cells HR1.out
  subst hW3
  clear hi hz0 hz1 hz2 hr hn
  go_enter Tryz.func53, Tryz.ntmps53
  go_wp2_with (at_builtin; refine wpList_append_srcC _ rfl _ _ 47 rfl w.heap.size 9 i0 _ 1 16 Tryz.underlying47 HI.out HZ0.out HZ1.out HZ2.out rfl (by decide) _ _ _ rfl HR3.out _ n (zs.map fun z => Value.string (tx z)) rfl HSRC.out H1.out (by unfold maxLen; omega) (by omega) HB3.out.size ?_; intro v4 w4 hown4 hg4; obtain ⟨ao4, c4, hv4, hp4, h41, h42, hb4⟩ := HF.out v4 w4 hown4 hg4; subst hv4; have HP4 := hid hp4; have H41 := hid h41; have H42 := hid h42; have HB4 := hid hb4; obtain ⟨x0, x1, x2, x3, y0, y1, y2, y3⟩ := rob_cells h41; obtain ⟨u0, u1, u2, u3, v0, v1, v2, v3⟩ := rob_cells h42; clear hown4 hg4 hp4 h41 h42 hb4)
  have B5 := rob_4 (rob_3 (rob_2 (rob_1 (block_other (o := 3) (.slice ao4 n c4) H42.out (show w.heap.size + 1 ≠ w.heap.size by omega)) p) (tx m)) k) (.slice ao4 n c4)
  obtain ⟨n0, n1, n2, n3, _, _, _, _⟩ := rob_cells B5
  have HBF := hid (((((HB4.out.setCell (p := ⟨w.heap.size, 3, none⟩) (Nat.le_refl _) (.slice ao4 n c4)).setCell (p := ⟨w.heap.size + 1, 0, none⟩) (Nat.le_succ _) (.int .i64 p)).setCell (p := ⟨w.heap.size + 1, 1, none⟩) (Nat.le_succ _) (.string (tx m))).setCell (p := ⟨w.heap.size + 1, 2, none⟩) (Nat.le_succ _) (.int .i64 k)).setCell (p := ⟨w.heap.size + 1, 3, none⟩) (Nat.le_succ _) (.slice ao4 n c4))
  have h41 := H41.out
  have h42 := block_other (o := 3) (.slice ao4 n c4) H42.out (show w.heap.size + 1 ≠ w.heap.size by omega)
  have HPF := hid (((((HP4.out.store (k := 3) (u := .slice ao4 n c4) h41).store (k := 0) (u := .int .i64 p) h42).store (k := 1) (u := .string (tx m)) (rob_1 h42 p)).store (k := 2) (u := .int .i64 k) (rob_2 (rob_1 h42 p) _)).store (k := 3) (u := .slice ao4 n c4) (rob_3 (rob_2 (rob_1 h42 p) _) k))
  refine bodyPost_ret (v := .agg #[.int .i64 p, .string (tx m), .int .i64 k, .slice ao4 n c4]) (by simp [results, Tryz.results53, go_sem, n0, n1, n2, n3]) rfl ⟨_, _, _, rfl, HPF.out, HBF.out⟩
end Go.Proofs.YtemmhingmeinjaaGreatDoor
namespace Go.Proofs.YtemmhingmeinjaaGreatDoor
open Go.RowKit

def mayE (W : Int) (L : List Raw) (k : Int) (r : Raw) : Int := match stepN W L k r with
  | .error e => e
  | .ok _ => 0

set_option maxRecDepth 20000 in
set_option maxHeartbeats 4000000 in
theorem RMay_any {w : World} {B n c : Nat} {ao : Option Addr} {W k p kk : Int} {m : List UInt8} {rv : Value} {zs : List (List UInt8)} {ps : List (Raw × Value)} (ho : OwnR w B (.slice ao n c) ps) (hn : ps.length = n) (h60 : n ≤ 4096) (ht : Txs w rv zs) (hz : ∀ p ∈ zs, p.length ≤ maxLen) (hzl : zs.length ≤ maxLen) (hm : m.length ≤ maxLen) :
    Calls Tryz.prog 28 #[.slice ao n c, .int .i64 W, .agg #[.int .i64 k, .int .i64 p, .string (tx m), .int .i64 kk, rv]] w fun e w' => e = .returned (.int .i64 (mayE W (ps.map Prod.fst) k ⟨p, m, kk, zs⟩)) ∧ Below w.heap.size w w' := by
  have HT := hid ht
  have HO := hid ho
  have HN := hid hn
  have HZ := hid hz
  obtain ⟨po, pc, rfl, _⟩ := ht
  obtain ⟨zn, hzn⟩ : ∃ zn, zn = zs.length := ⟨_, rfl⟩
  have HZN := hid hzn
  rw [← hzn] at HT ⊢
  have HB1 := hid (show Below w.heap.size w (w.alloc (cob k p (tx m) kk (.slice po zn pc))) from (Below.refl _ _).alloc (Nat.le_refl _) _)
  have HC1 := hid (new_0 w (cob k p (tx m) kk (.slice po zn pc)))
  have e0 : (w.alloc (cob k p (tx m) kk (.slice po zn pc))).cell? ⟨w.heap.size, 0, none⟩ = some (.int .i64 k) := by rw [cell_at HC1.out]; rfl
  have e1 : (w.alloc (cob k p (tx m) kk (.slice po zn pc))).cell? ⟨w.heap.size, 1, none⟩ = some (.int .i64 p) := by rw [cell_at HC1.out]; rfl
  have e2 : (w.alloc (cob k p (tx m) kk (.slice po zn pc))).cell? ⟨w.heap.size, 2, none⟩ = some (.string (tx m)) := by rw [cell_at HC1.out]; rfl
  have e3 : (w.alloc (cob k p (tx m) kk (.slice po zn pc))).cell? ⟨w.heap.size, 3, none⟩ = some (.int .i64 kk) := by rw [cell_at HC1.out]; rfl
  have e4 : (w.alloc (cob k p (tx m) kk (.slice po zn pc))).cell? ⟨w.heap.size, 4, none⟩ = some (.slice po zn pc) := by rw [cell_at HC1.out]; rfl
  by_cases hk0 : k < 1
  · have HM := hid (show mayE W (ps.map Prod.fst) k ⟨p, m, kk, zs⟩ = 61 by unfold mayE; rw [step_none (by omega) (by omega) (by omega)])
    clear ho hn hz hzn
    go_enter Tryz.func28, Tryz.ntmps28
    go_wp2
    go_ret
    exact ⟨by rw [HM.out]; rfl, HB1.out⟩
  by_cases hk3 : 3 < k
  · have HM := hid (show mayE W (ps.map Prod.fst) k ⟨p, m, kk, zs⟩ = 61 by unfold mayE; rw [step_none (by omega) (by omega) (by omega)])
    clear ho hn hz hzn
    go_enter Tryz.func28, Tryz.ntmps28
    go_wp2
    go_ret
    exact ⟨by rw [HM.out]; rfl, HB1.out⟩
  by_cases k2 : k = 2
  · subst k2
    have HB2 := hid (show Below w.heap.size w ((w.alloc (cob 2 p (tx m) kk (.slice po zn pc))).alloc (rob p (tx m) 1 (.slice none 0 0))) from HB1.out.alloc HB1.out.size _)
    have HCK := hid (RCheckN_any (W := W) (p := p) (k := 1) (m := m) (v := .slice none 0 0) (ps := []) (w := (w.alloc (cob 2 p (tx m) kk (.slice po zn pc))).alloc (rob p (tx m) 1 (.slice none 0 0))) (Txs.nil _ _ _) (fun x hx => by cases hx) (by simp) hm)
    have HR2 := hid (new_1 w (cob 2 p (tx m) kk (.slice po zn pc)) (rob p (tx m) 1 (.slice none 0 0)))
    have HC2 := hid (new_old _ (rob p (tx m) 1 (.slice none 0 0)) HC1.out)
    have HM := hid (show mayE W (ps.map Prod.fst) 2 ⟨p, m, kk, zs⟩ = placeE W (ps.map Prod.fst) ⟨p, m, 1, []⟩ by unfold mayE; rw [step_two]; by_cases hp : placeE W (ps.map Prod.fst) ⟨p, m, 1, []⟩ = 0; rw [if_pos hp, hp]; rw [if_neg hp])
    by_cases he : errR W ⟨p, m, 1, []⟩ = 0
    · rw [he] at HCK
      have HP := hid (show placeE W (ps.map Prod.fst) ⟨p, m, 1, []⟩ = if ((ps.map Prod.fst).any fun a => keyB a ⟨p, m, 1, []⟩) = true then 0 else 60 by unfold placeE; rw [if_pos he])
      have HNN := hid (atN_nonneg (L := ps.map Prod.fst) (r := ⟨p, m, 1, []⟩))
      obtain ⟨tb, htb⟩ : ∃ tb, ((ps.map Prod.fst).any fun a => keyB a ⟨p, m, 1, []⟩) = tb := ⟨_, rfl⟩
      rw [htb] at HP HNN
      have HAT := hid (fun (X : World) (hX : Below w.heap.size w X) => Rat_any (HO.out.on hX) HN.out h60 p 1 m none 0 0 [])
      obtain ⟨at_, hat⟩ : ∃ at_, at_ = atN (ps.map Prod.fst) ⟨p, m, 1, []⟩ := ⟨_, rfl⟩
      rw [← hat] at HNN HAT
      clear ho hn hz hzn he htb hat
      go_enter Tryz.func28, Tryz.ntmps28
      go_wp2_with fail
      refine HCK.out.mono ?_
      rintro en w3 ⟨rfl, hb3⟩
      have B3 := hid (below_2 HB2.out hb3)
      have hR3 := below_block hb3 HR2.out (lt_of_block HR2.out)
      have hC3 := below_block hb3 HC2.out (lt_of_block HC2.out)
      obtain ⟨d0, d1, d2, d3, _, _, _, _⟩ := rob_cells hR3
      have c3 : w3.cell? ⟨w.heap.size, 0, none⟩ = some (.int .i64 2) := by rw [cell_at hC3]; rfl
      have HC3 := hid hC3
      clear hb3 hR3 hC3
      go_wp2_with fail
      refine (HAT.out _ B3.out).mono ?_
      rintro en w4 ⟨rfl, hb4⟩
      have B4 := hid (below_2 B3.out hb4)
      have c4 : w4.cell? ⟨w.heap.size, 0, none⟩ = some (.int .i64 2) := (hb4.cell (block_old c3)).trans c3
      clear hb4 c3 d0 d1 d2 d3
      cases tb with
      | true =>
        have hge : (0 : Int) ≤ at_ := of_decide_eq_true HNN.out
        go_wp2
        go_ret
        exact ⟨by rw [HM.out, HP.out]; rfl, B4.out⟩
      | false =>
        have hge : at_ < 0 := by have : ¬ (0 : Int) ≤ at_ := of_decide_eq_false HNN.out; omega
        have hd : decide ((0 : Int) ≤ at_) = false := HNN.out
        go_wp2
        go_ret
        exact ⟨by rw [HM.out, HP.out]; rfl, B4.out⟩
    · have HP := hid (show placeE W (ps.map Prod.fst) ⟨p, m, 1, []⟩ = errR W ⟨p, m, 1, []⟩ by unfold placeE; rw [if_neg he])
      obtain ⟨er, her⟩ : ∃ er, er = errR W ⟨p, m, 1, []⟩ := ⟨_, rfl⟩
      rw [← her] at HP HCK he
      have hne : (er != 0) = true := by rw [bne_iff_ne]; exact he
      clear ho hn hz hzn he her
      go_enter Tryz.func28, Tryz.ntmps28
      go_wp2_with fail
      refine HCK.out.mono ?_
      rintro en w3 ⟨rfl, hb3⟩
      have B3 := hid (below_2 HB2.out hb3)
      clear hb3
      go_wp2
      go_ret
      exact ⟨by rw [HM.out, HP.out]; rfl, B3.out⟩
  have hk2 : (k == 2) = false := by rw [beq_eq_false_iff_ne]; exact k2
  have HB2 := hid (show Below w.heap.size w ((w.alloc (cob k p (tx m) kk (.slice po zn pc))).alloc (rob p (tx m) kk (.slice po zn pc))) from HB1.out.alloc HB1.out.size _)
  have HCK := hid (RCheckN_any (W := W) (p := p) (k := kk) (m := m) (HT.out.below HB2.out) HZ.out (by rw [← HZN.out]; rw [← hzn] at hzl; exact hzl) hm)
  have HR2 := hid (new_1 w (cob k p (tx m) kk (.slice po zn pc)) (rob p (tx m) kk (.slice po zn pc)))
  have HC2 := hid (new_old _ (rob p (tx m) kk (.slice po zn pc)) HC1.out)
  by_cases he : errR W ⟨p, m, kk, zs⟩ = 0
  · rw [he] at HCK
    have HNN := hid (atN_nonneg (L := ps.map Prod.fst) (r := ⟨p, m, kk, zs⟩))
    obtain ⟨tb, htb⟩ : ∃ tb, ((ps.map Prod.fst).any fun a => keyB a ⟨p, m, kk, zs⟩) = tb := ⟨_, rfl⟩
    rw [htb] at HNN
    have HM1 := hid (show k = 1 → mayE W (ps.map Prod.fst) k ⟨p, m, kk, zs⟩ = if tb = true then 52 else if 4096 ≤ n then 3 else 0 from fun hk => by
      unfold mayE stepN
      rw [if_pos hk, if_pos he, htb]
      cases tb with
      | true => rfl
      | false =>
        simp only [Bool.false_eq_true, if_false]
        by_cases hl : 4096 ≤ n
        · rw [if_pos (by rw [List.length_map, HN.out]; exact hl), if_pos hl]
        · rw [if_neg (by rw [List.length_map, HN.out]; exact hl), if_neg hl])
    have HM3 := hid (show k = 3 → mayE W (ps.map Prod.fst) k ⟨p, m, kk, zs⟩ = if tb = true then 0 else 60 from fun hk => by
      unfold mayE
      rw [hk, step_three]
      unfold placeE
      rw [if_pos he, htb]
      cases tb <;> rfl)
    have HAT := hid (fun (X : World) (hX : Below w.heap.size w X) => Rat_any (HO.out.on hX) HN.out h60 p kk m po zn pc zs)
    obtain ⟨at_, hat⟩ : ∃ at_, at_ = atN (ps.map Prod.fst) ⟨p, m, kk, zs⟩ := ⟨_, rfl⟩
    rw [← hat] at HNN HAT
    clear ho hn hz hzn he htb hat
    go_enter Tryz.func28, Tryz.ntmps28
    go_wp2_with fail
    refine HCK.out.mono ?_
    rintro en w3 ⟨rfl, hb3⟩
    have B3 := hid (below_2 HB2.out hb3)
    have hR3 := below_block hb3 HR2.out (lt_of_block HR2.out)
    have hC3 := below_block hb3 HC2.out (lt_of_block HC2.out)
    obtain ⟨d0, d1, d2, d3, _, _, _, _⟩ := rob_cells hR3
    have c3 : w3.cell? ⟨w.heap.size, 0, none⟩ = some (.int .i64 k) := by rw [cell_at hC3]; rfl
    clear hb3 hR3 hC3
    go_wp2_with fail
    refine (HAT.out _ B3.out).mono ?_
    rintro en w4 ⟨rfl, hb4⟩
    have B4 := hid (below_2 B3.out hb4)
    have c4 : w4.cell? ⟨w.heap.size, 0, none⟩ = some (.int .i64 k) := (hb4.cell (block_old c3)).trans c3
    clear hb4 c3 d0 d1 d2 d3
    by_cases k1 : k = 1
    · have HM := hid (HM1.out k1)
      subst k1
      cases tb with
      | true =>
        have hge : (0 : Int) ≤ at_ := of_decide_eq_true HNN.out
        go_wp2
        go_ret
        exact ⟨by rw [HM.out]; rfl, B4.out⟩
      | false =>
        have hge : at_ < 0 := by have : ¬ (0 : Int) ≤ at_ := of_decide_eq_false HNN.out; omega
        have hd : decide ((0 : Int) ≤ at_) = false := HNN.out
        by_cases hl : 4096 ≤ n
        · have hlI : (4096 : Int) ≤ (n : Int) := by omega
          go_wp2
          go_ret
          exact ⟨by rw [HM.out, if_neg (by decide), if_pos hl]; rfl, B4.out⟩
        · have hlI : ¬ (4096 : Int) ≤ (n : Int) := by omega
          go_wp2
          go_ret
          exact ⟨by rw [HM.out, if_neg (by decide), if_neg hl]; rfl, B4.out⟩
    · have k3 : k = 3 := by omega
      have HM := hid (HM3.out k3)
      subst k3
      cases tb with
      | true =>
        have hge : (0 : Int) ≤ at_ := of_decide_eq_true HNN.out
        go_wp2
        go_ret
        exact ⟨by rw [HM.out]; rfl, B4.out⟩
      | false =>
        have hge : at_ < 0 := by have : ¬ (0 : Int) ≤ at_ := of_decide_eq_false HNN.out; omega
        have hd : decide ((0 : Int) ≤ at_) = false := HNN.out
        go_wp2
        go_ret
        exact ⟨by rw [HM.out]; rfl, B4.out⟩
  · have HM := hid (show mayE W (ps.map Prod.fst) k ⟨p, m, kk, zs⟩ = errR W ⟨p, m, kk, zs⟩ by
      have hk : k = 1 ∨ k = 3 := by omega
      unfold mayE stepN
      rcases hk with rfl | rfl
      · rw [if_pos rfl, if_neg he]
      · rw [if_neg (by decide), if_neg (by decide), if_pos rfl, if_neg he])
    obtain ⟨er, her⟩ : ∃ er, er = errR W ⟨p, m, kk, zs⟩ := ⟨_, rfl⟩
    rw [← her] at HM HCK he
    have hne : (er != 0) = true := by rw [bne_iff_ne]; exact he
    clear ho hn hz hzn he her
    go_enter Tryz.func28, Tryz.ntmps28
    go_wp2_with fail
    refine HCK.out.mono ?_
    rintro en w3 ⟨rfl, hb3⟩
    have B3 := hid (below_2 HB2.out hb3)
    clear hb3
    go_wp2
    go_ret
    exact ⟨by rw [HM.out]; rfl, B3.out⟩
end Go.Proofs.YtemmhingmeinjaaGreatDoor
namespace Go.Proofs.YtemmhingmeinjaaGreatDoor
open Go.RowKit

theorem srt_one : ∀ {A B : List Raw}, Srt A → Srt B → A.Perm B → A = B := by
  intro A
  induction A with
  | nil => intro B _ _ p; exact List.Perm.nil_eq p
  | cons a A ih =>
    intro B ha hb p
    cases B with
    | nil => exact absurd p.length_eq (by simp)
    | cons b B =>
      obtain ⟨a1, a2⟩ := List.pairwise_cons.1 ha
      obtain ⟨b1, b2⟩ := List.pairwise_cons.1 hb
      have hab : a = b := by
        rcases List.mem_cons.1 (p.mem_iff.1 List.mem_cons_self) with h | h
        · exact h
        · rcases List.mem_cons.1 (p.mem_iff.2 List.mem_cons_self) with k | k
          · exact k.symm
          · exact (cmpR_asy (a1 b k) (b1 a h)).elim
      subst hab
      rw [ih a2 b2 (List.Perm.cons_inv p)]
theorem rowOf_raw {ps : List (Raw × Value)} {S : List Nat} : (rowOf ps S).map Prod.fst = S.map (rawAt ps) := by
  unfold rowOf
  rw [List.map_map]
  refine List.map_congr_left fun i _ => ?_
  unfold rawAt
  simp only [Function.comp, List.getD_eq_getElem?_getD]
  cases ps[i]? <;> rfl
theorem order_put {ps : List (Raw × Value)} {L : List Raw} {r : Raw} {S : List Nat} (he : ps.map Prod.fst = L ++ [r]) (hs : Srt L) (hno : L.any (fun a => keyB a r) = false) (hu : St.Up (cmpAt ps) S) (hp : S.Perm (List.range' 0 ps.length)) : (rowOf ps S).map Prod.fst = putR L r := by
  have hmem : ∀ x ∈ S, x < ps.length := fun x hx => by have := hp.mem_iff.1 hx; rw [List.mem_range'_1] at this; omega
  have hnk : ∀ a ∈ L, ¬ sameKey a r := fun a ha q => by
    have := (List.any_eq_true (l := L) (p := fun a => keyB a r)).2 ⟨a, ha, keyB_iff.2 q⟩
    rw [hno] at this
    cases this
  have hall : (L ++ [r]).Pairwise fun a b => ¬ sameKey a b := by
    rw [List.pairwise_append]
    refine ⟨hs.imp fun {a b} h q => ?_, List.pairwise_singleton _ _, fun a ha b hb => ?_⟩
    · rw [cmpR_same q] at h; omega
    · rw [List.mem_singleton.1 hb]; exact hnk a ha
  have hraw : ∀ x (hx : x < (L ++ [r]).length), rawAt ps x = (L ++ [r])[x] := fun x hx => by
    have e := congrArg (fun l => l[x]?) he
    simp only [List.getElem?_map] at e
    rw [List.getElem?_eq_getElem hx] at e
    unfold rawAt
    cases h : ps[x]? with
    | none => rw [h] at e; simp at e
    | some q => rw [h] at e; simpa using e
  have hlen : (L ++ [r]).length = ps.length := by rw [← he, List.length_map]
  have hk : ∀ x y, x < y → y < ps.length → ¬ sameKey (rawAt ps x) (rawAt ps y) := fun x y hxy hy => by
    rw [hraw x (by omega), hraw y (by omega)]
    exact List.pairwise_iff_getElem.1 hall x y (by omega) (by omega) hxy
  have hS : Srt (S.map (rawAt ps)) := by
    unfold Srt
    unfold St.Up at hu
    rw [List.pairwise_map, List.pairwise_iff_getElem]
    rw [List.pairwise_iff_getElem] at hu
    intro i j hi hj hij
    have h1 := hmem _ (List.getElem_mem hi)
    have h2 := hmem _ (List.getElem_mem hj)
    rw [← cmpAt_raw h1 h2]
    rcases hu i j hi hj hij with q | ⟨q, hlt⟩
    · exact q
    · rw [cmpAt_raw h1 h2] at q
      exact absurd (cmpR_zero q) (hk _ _ hlt h2)
  rw [rowOf_raw]
  refine srt_one hS (hs.put hno) ?_
  refine (hp.map (rawAt ps)).trans ?_
  rw [range_raw, he]
  exact (putR_perm L r).symm
end Go.Proofs.YtemmhingmeinjaaGreatDoor
namespace Go.Proofs.YtemmhingmeinjaaGreatDoor
open Go.RowKit

structure DocL (w : World) (B Q : Nat) (v : Value) (ps : List (Raw × Value)) : Prop where
  own : OwnR w B v ps
  prt : ∀ q ∈ ps, Ported w Q q.2 q.1.ports ∧ ∀ p ∈ q.1.ports, p.length ≤ maxLen
theorem DocL.txs {w : World} {B Q : Nat} {v : Value} {ps : List (Raw × Value)} (h : DocL w B Q v ps) : ∀ q ∈ ps, Txs w q.2 q.1.ports ∧ ∀ p ∈ q.1.ports, p.length ≤ maxLen := fun q hq => ⟨(h.prt q hq).1.txs, (h.prt q hq).2⟩
theorem DocL.on {w w' : World} {B Q : Nat} {v : Value} {ps : List (Raw × Value)} (h : DocL w B Q v ps) (hb : Below w.heap.size w w') : DocL w' B Q v ps :=
  ⟨h.own.on hb, fun q hq => ⟨(h.prt q hq).1.on hb, (h.prt q hq).2⟩⟩

theorem own_mono {w : World} {B B' : Nat} {v : Value} {n : Nat} {xs : List Value} (h : w.ownsRow B 51 4 v n xs) (hB : B' ≤ B) : w.ownsRow B' 51 4 v n xs := by
  obtain ⟨h1, h2⟩ := h
  refine ⟨h1, ?_⟩
  rcases h2 with h2 | ⟨g, cap, cur, e, hb, r⟩
  · exact Or.inl h2
  · exact Or.inr ⟨g, cap, cur, e, Nat.le_trans hB hb, r⟩
theorem rowOf_mem {ps : List (Raw × Value)} {S : List Nat} {q : Raw × Value} (hS : ∀ x ∈ S, x < ps.length) (h : q ∈ rowOf ps S) : q ∈ ps := by
  unfold rowOf at h
  obtain ⟨y, hy, e⟩ := List.mem_map.1 h
  have hyp : ps[y]? = some (ps[y]'(hS y hy)) := List.getElem?_eq_getElem _
  rw [List.getD_eq_getElem?_getD, hyp] at e
  rw [← e]
  exact List.mem_of_getElem? hyp
theorem put_view {w w2 w3 w5 : World} {B Q n c2 c5 n3 c3 : Nat} {v : Value} {a2 a3 a5 : Option Addr} {ps : List (Raw × Value)} {r : Raw} (hd : DocL w B Q v ps) (hQ : Q ≤ w.heap.size) (hB2 : Below w.heap.size w w2) (hb3 : Below w2.heap.size w2 w3) (ho2 : w2.ownsRow w.heap.size 51 4 (.slice a2 n c2) n (flatV ps)) (hp3 : Ported w3 w2.heap.size (.slice a3 n3 c3) r.ports) (hzl : ∀ z ∈ r.ports, z.length ≤ maxLen)
    (ho5 : w5.ownsRow w.heap.size 51 4 (.slice a5 (n + 1) c5) (n + 1) (flatV ps ++ [.int .i64 r.prio, .string (tx r.mat), .int .i64 r.kind, .slice a3 n3 c3])) (hg5 : (w3.alloc (rob r.prio (tx r.mat) r.kind (.slice a3 n3 c3))).grownBy w5 (Value.slice a2 n c2).ownBlock) :
    ∃ g, a5 = some ⟨g, 0, none⟩ ∧ RawView w5 g 0 (ps ++ [(r, .slice a3 n3 c3)]) ∧ (∀ q ∈ ps ++ [(r, .slice a3 n3 c3)], Ported w5 Q q.2 q.1.ports) ∧ Below w.heap.size w w5 := by
  have hb4 : Below w2.heap.size w2 (w3.alloc (rob r.prio (tx r.mat) r.kind (.slice a3 n3 c3))) := hb3.alloc hb3.size _
  have ho4 := own_kept ho2 hb4
  have hrow : ∀ b, (Value.slice a2 n c2).ownBlock = some b → w.heap.size ≤ b ∧ ∃ cs, (w3.alloc (rob r.prio (tx r.mat) r.kind (.slice a3 n3 c3))).heap[b]? = some (.cells cs 51 (0, 0)) := fun b hb => by
    rcases ho4.2 with ⟨e, _⟩ | ⟨g, cap, cur, e, hB, hh, _⟩
    · rw [e] at hb; cases hb
    · rw [e] at hb
      have : g = b := by simpa [Value.ownBlock] using hb
      subst this
      exact ⟨hB, cur, hh⟩
  have hl4 := hB2.trans (hb4.mono hB2.size)
  have hl5 := hl4.grown hg5 hl4.size (fun b hb => (hrow b hb).1)
  have hp5 := (hp3.on ((Below.refl _ _).alloc (Nat.le_refl _) _)).grew hg5 (fun b hb => (hrow b hb).2)
  rcases own_cells ho5 with ⟨_, h0, _⟩ | ⟨g, e, _, _, hg, hc⟩
  · omega
  · refine ⟨g, e, ⟨hg, fun i q hq => ?_, fun q hq => ?_⟩, fun q hq => ?_, hl5⟩
    · have hq' := flatV_get hq
      rw [flatV_append] at hq'
      obtain ⟨h0, h1, h2, h3⟩ := hq'
      rw [Nat.zero_add]
      exact ⟨hc _ _ h0, hc _ _ h1, hc _ _ h2, hc _ _ h3⟩
    · rcases List.mem_append.1 hq with hq | hq
      · exact ⟨(hd.txs q hq).1.below hl5, (hd.txs q hq).2⟩
      · rw [List.mem_singleton.1 hq]
        exact ⟨hp5.txs, hzl⟩
    · rcases List.mem_append.1 hq with hq | hq
      · exact ((hd.prt q hq).1.on hl4).grew hg5 (fun b hb => (hrow b hb).2)
      · rw [List.mem_singleton.1 hq]
        exact hp5.mono (Nat.le_trans hQ hB2.size)

set_option maxRecDepth 20000 in
set_option maxHeartbeats 4000000 in
theorem RAfterI {w : World} {B Q n c : Nat} {ao : Option Addr} {ps : List (Raw × Value)} {p k : Int} {m : List UInt8} {u : Option Addr} {un uc : Nat} {zs : List (List UInt8)} (hd : DocL w B Q (.slice ao n c) ps) (hQ : Q ≤ w.heap.size) (hn : ps.length = n) (h60 : n < 4096) (ht : Txs w (.slice u un uc) zs) (hz : zs.length * 16 ≤ 140737488355328) (hzl : ∀ z ∈ zs, z.length ≤ maxLen) (hs : Srt (ps.map Prod.fst)) (hno : (ps.map Prod.fst).any (fun a => keyB a ⟨p, m, k, zs⟩) = false) :
    Calls Tryz.prog 29 #[.slice ao n c, .agg #[.int .i64 1, .int .i64 p, .string (tx m), .int .i64 k, .slice u un uc]] w fun e w' => ∃ bo bc qs, e = .returned (.slice bo (n + 1) bc) ∧ Hid (DocL w' w.heap.size Q (.slice bo (n + 1) bc) qs ∧ qs.map Prod.fst = putR (ps.map Prod.fst) ⟨p, m, k, zs⟩ ∧ Below w.heap.size w w') := by
  have HD := hid hd
  have HN := hid hn
  have HT := hid ht
  have HZ := hid hz
  have HZL := hid hzl
  have HSR := hid hs
  have HNO := hid hno
  obtain ⟨i0, hi, hz0, hz1, hz2⟩ := info_parts Tryz.infoRule4
  have HI := hid hi
  have HZ0 := hid hz0
  have HZ1 := hid hz1
  have HZ2 := hid hz2
  obtain ⟨W1, hW1⟩ : ∃ W1, W1 = w.alloc (.cells #[.int .i64 1, .int .i64 p, .string (tx m), .int .i64 k, .slice u un uc] 53) := ⟨_, rfl⟩
  have HB1 := hid (show Below w.heap.size w W1 by rw [hW1]; exact (Below.refl _ _).alloc (Nat.le_refl _) _)
  have HC1 := hid (show W1.heap[w.heap.size]? = some (.cells #[.int .i64 1, .int .i64 p, .string (tx m), .int .i64 k, .slice u un uc] 53) by rw [hW1]; exact new_0 _ _)
  have HSZ := hid (show W1.heap.size = w.heap.size + 1 by rw [hW1]; simp)
  have HO1 := hid (World.ownsRow_nil W1 w.heap.size 51 4)
  have HSRC := hid (show (∃ c', (.slice ao n c : Value) = .slice none 0 c' ∧ n = 0 ∧ flatV ps = []) ∨ ∃ ad c', (.slice ao n c : Value) = .slice (some ad) n c' ∧ (flatV ps).length = n * 4 ∧ ∀ j u, (flatV ps)[j]? = some u → W1.cell? (ad.add j) = some u from by
    have ho := HD.out.own.own
    rw [HN.out] at ho
    rcases own_cells ho with ⟨e1, e2, e3⟩ | ⟨g, e1, _, _, hg, hc⟩
    · exact Or.inl ⟨c, by rw [e1, e2], e2, by rw [List.length_eq_zero_iff.1 (HN.out.trans e2)]; rfl⟩
    · refine Or.inr ⟨⟨g, 0, none⟩, c, by rw [e1], by rw [flatV_len, HN.out], fun j u hj => ?_⟩
      rw [addr_add5, Nat.zero_add, HB1.out.cell (by exact hg)]
      exact hc j u hj)
  have H1 := hid (flatV_one (rs := ps) HD.out.own.vals)
  have HFA := hid (show ∀ (v2 : Value) (w2 : World), w2.ownsRow w.heap.size 51 4 v2 (0 + n) ([] ++ flatV ps) → W1.grownBy w2 (Value.slice none 0 0).ownBlock → ∃ a2 c2, v2 = .slice a2 n c2 ∧ w2.ownsRow w.heap.size 51 4 (.slice a2 n c2) n (flatV ps) ∧ w2.heap[w.heap.size]? = some (.cells #[.int .i64 1, .int .i64 p, .string (tx m), .int .i64 k, .slice u un uc] 53) ∧ Below w.heap.size w w2 from fun v2 w2 ho hg => by
    rw [Nat.zero_add, List.nil_append] at ho
    obtain ⟨a2, c2, e⟩ := own_form ho
    subst e
    refine ⟨a2, c2, rfl, ho, ?_, HB1.out.grown hg (by rw [HSZ.out]; omega) (fun b hb => by cases hb)⟩
    rw [hg.block _ (by rw [HSZ.out]; omega) (fun e => by cases e)]
    exact HC1.out)
  have q0 := cell_at (o := 0) HC1.out
  have q1 := cell_at (o := 1) HC1.out
  have q2 := cell_at (o := 2) HC1.out
  have q3 := cell_at (o := 3) HC1.out
  have q4 := cell_at (o := 4) HC1.out
  simp at q0 q1 q2 q3 q4
  subst hW1
  clear hd hn ht hz hzl hs hno hi hz0 hz1 hz2
  go_enter Tryz.func29, Tryz.ntmps29
  go_wp2_with (at_builtin; refine wpList_append_srcC _ rfl _ _ 36 rfl w.heap.size 51 i0 _ 4 56 Tryz.underlying36 HI.out HZ0.out HZ1.out HZ2.out rfl (by decide) (.slice none 0 0) 0 [] rfl HO1.out (.slice ao n c) n (flatV ps) rfl HSRC.out H1.out (by unfold maxLen; omega) (by omega) HB1.out.size ?_; intro v2 w2 hown2 hg2; obtain ⟨a2, c2, hv2, ho2, hc2, hb2⟩ := HFA.out v2 w2 hown2 hg2; subst hv2; have HO2 := hid ho2; have HC2 := hid hc2; have HB2 := hid hb2; have r0 := cell_at (o := 0) hc2; have r1 := cell_at (o := 1) hc2; have r2 := cell_at (o := 2) hc2; have r3 := cell_at (o := 3) hc2; have r4 := cell_at (o := 4) hc2; simp at r0 r1 r2 r3 r4; have HCP := hid (RCopy_any (p := p) (k := k) (m := m) (HT.out.below HB2.out) HZ.out); clear hown2 hg2 ho2 hc2 hb2)
  refine HCP.out.mono ?_
  rintro en w3 ⟨a3, n3, c3, rfl, hp3, hb3⟩
  have HP3 := hid hp3.out
  have HB3 := hid hb3
  have HO4 := hid (own_kept HO2.out (hb3.alloc hb3.size (rob p (tx m) k (.slice a3 n3 c3))))
  have HS4 := hid (show ∃ ad c, (.slice (some ⟨w3.heap.size, 0, none⟩) 1 1 : Value) = .slice (some ad) 1 c ∧ ([.int .i64 p, .string (tx m), .int .i64 k, .slice a3 n3 c3] : List Value).length = 1 * 4 ∧ ∀ t u, ([.int .i64 p, .string (tx m), .int .i64 k, .slice a3 n3 c3] : List Value)[t]? = some u → (w3.alloc (rob p (tx m) k (.slice a3 n3 c3))).cell? (ad.add t) = some u from ⟨⟨w3.heap.size, 0, none⟩, 1, rfl, rfl, fun t u hu => by
    rw [addr_add5, Nat.zero_add, cell_at (new_0 w3 (rob p (tx m) k (.slice a3 n3 c3))), ← Array.getElem?_toList]
    exact hu⟩)
  have HO1' := hid (show ∀ u ∈ ([.int .i64 p, .string (tx m), .int .i64 k, .slice a3 n3 c3] : List Value), u.oneCell' = true from fun u hu => by
    simp only [List.mem_cons, List.not_mem_nil, or_false] at hu
    rcases hu with rfl | rfl | rfl | rfl <;> rfl)
  have HZ4 := hid (show w.heap.size ≤ (w3.alloc (rob p (tx m) k (.slice a3 n3 c3))).heap.size by have := HB2.out.size; have := hb3.size; simp; omega)
  have HPV := hid (show ∀ (v5 : Value) (w5 : World), w5.ownsRow w.heap.size 51 4 v5 (n + 1) (flatV ps ++ [.int .i64 p, .string (tx m), .int .i64 k, .slice a3 n3 c3]) → (w3.alloc (rob p (tx m) k (.slice a3 n3 c3))).grownBy w5 (Value.slice a2 n c2).ownBlock → ∃ g c5, v5 = .slice (some ⟨g, 0, none⟩) (n + 1) c5 ∧ RawView w5 g 0 (ps ++ [(⟨p, m, k, zs⟩, .slice a3 n3 c3)]) ∧ (∀ q ∈ ps ++ [((⟨p, m, k, zs⟩ : Raw), Value.slice a3 n3 c3)], Ported w5 Q q.2 q.1.ports) ∧ Below w.heap.size w w5 from fun v5 w5 ho hg => by
    obtain ⟨a5, c5, e⟩ := own_form ho
    subst e
    obtain ⟨g, rfl, hv, hp, hb⟩ := put_view (r := ⟨p, m, k, zs⟩) HD.out hQ HB2.out HB3.out HO2.out HP3.out HZL.out ho hg
    exact ⟨g, c5, rfl, hv, hp, hb⟩)
  clear hp3 hb3 r0 r1 r2 r3 r4
  go_wp2_with (at_builtin; refine wpList_append_srcC _ rfl _ _ 36 rfl w.heap.size 51 i0 _ 4 56 Tryz.underlying36 HI.out HZ0.out HZ1.out HZ2.out rfl (by decide) (.slice a2 n c2) n (flatV ps) rfl HO4.out _ 1 [.int .i64 p, .string (tx m), .int .i64 k, .slice a3 n3 c3] rfl (Or.inr HS4.out) HO1'.out (by unfold maxLen; omega) (by omega) HZ4.out ?_; intro v5 w5 hown5 hg5; obtain ⟨g5, c5, hv5, hv, hpo, hb5⟩ := HPV.out v5 w5 hown5 hg5; subst hv5; have HV5 := hid hv; have HPO := hid hpo; have HB5 := hid hb5; have HRO := hid (ROrder_some (cap := c5) (n := n + 1) hv (by rw [List.length_append, HN.out]; rfl) (by omega)); clear hown5 hg5 hv hpo hb5)
  refine HRO.out.mono ?_
  rintro en w6 ⟨bo, bc, S, rfl, hD⟩
  have HDD := hid hD.out
  clear hD
  have HPL := hid (show (ps ++ [((⟨p, m, k, zs⟩ : Raw), Value.slice a3 n3 c3)]).length = n + 1 by rw [List.length_append, HN.out]; rfl)
  have HMEM := hid (show ∀ x ∈ S, x < (ps ++ [((⟨p, m, k, zs⟩ : Raw), Value.slice a3 n3 c3)]).length from fun x hx => by rw [HPL.out]; exact HDD.out.mem hx)
  have HEND := hid (show DocL w6 w.heap.size Q (.slice bo (n + 1) bc) (rowOf (ps ++ [((⟨p, m, k, zs⟩ : Raw), Value.slice a3 n3 c3)]) S) ∧ (rowOf (ps ++ [((⟨p, m, k, zs⟩ : Raw), Value.slice a3 n3 c3)]) S).map Prod.fst = putR (ps.map Prod.fst) ⟨p, m, k, zs⟩ ∧ Below w.heap.size w w6 from by
    refine ⟨⟨⟨?_, fun q hq => ?_⟩, fun q hq => ?_⟩, ?_, HB5.out.trans (HDD.out.low.mono HB5.out.size)⟩
    · rw [rowOf_len, HDD.out.len]
      exact own_mono HDD.out.own HB5.out.size
    · obtain ⟨ao, c, e, _⟩ := (HV5.out.ports q (rowOf_mem HMEM.out hq)).1
      exact ⟨ao, _, c, e⟩
    · exact ⟨(HPO.out q (rowOf_mem HMEM.out hq)).on HDD.out.low, (HV5.out.ports q (rowOf_mem HMEM.out hq)).2⟩
    · refine order_put (by rw [List.map_append]; rfl) HSR.out HNO.out HDD.out.up (by rw [HPL.out]; exact HDD.out.perm))
  go_wp2
  go_ret
  exact ⟨_, _, _, rfl, HEND.out⟩
end Go.Proofs.YtemmhingmeinjaaGreatDoor
namespace Go.Proofs.YtemmhingmeinjaaGreatDoor
open Go.RowKit

abbrev cob5 (kd p : Int) (m : List UInt8) (k : Int) (v : Value) : Obj := .cells #[.int .i64 kd, .int .i64 p, .string (tx m), .int .i64 k, v] 53
structure AftAt (w : World) (Q : Nat) (kd p : Int) (m : List UInt8) (k : Int) (vc : Value) (v : Value) (qs : List (Raw × Value)) (wr : World) : Prop where
  low : Below w.heap.size w wr
  doc : DocL wr w.heap.size Q v qs
  blk : wr.heap[w.heap.size]? = some (cob5 kd p m k vc)
theorem AftAt.on {w wo w' : World} {Q : Nat} {kd p : Int} {m : List UInt8} {k : Int} {vc v : Value} {qs : List (Raw × Value)} (h : AftAt w Q kd p m k vc v qs wo) (hb : Below wo.heap.size wo w') : AftAt w Q kd p m k vc v qs w' :=
  ⟨h.low.trans (hb.mono h.low.size), h.doc.on hb, below_block hb h.blk (lt_of_block h.blk)⟩
theorem AftAt.next {w wo W w7 : World} {Q : Nat} {kd p : Int} {m : List UInt8} {k : Int} {vc : Value} {n bc : Nat} {bo : Option Addr} {qs : List (Raw × Value)} {r : Raw} {v v7 : Value} (h : AftAt w Q kd p m k vc (.slice bo n bc) qs wo) (hW : Below wo.heap.size wo W) (ht : Ported W Q v r.ports) (hl : ∀ p ∈ r.ports, p.length ≤ maxLen)
    (hown : w7.ownsRow w.heap.size 51 4 v7 (n + 1) (flatV qs ++ [.int .i64 r.prio, .string (tx r.mat), .int .i64 r.kind, v])) (hg : W.grownBy w7 (Value.slice bo n bc).ownBlock) (hn : qs.length = n) :
    AftAt w Q kd p m k vc v7 (qs ++ [(r, v)]) w7 := by
  have hW' := h.on hW
  have ho := hW'.doc.own.own
  rw [hn] at ho
  have hrow : ∀ b, (Value.slice bo n bc).ownBlock = some b → w.heap.size ≤ b ∧ ∃ cs, W.heap[b]? = some (.cells cs 51 (0, 0)) := fun b hb => by
    rcases ho.2 with ⟨e, _⟩ | ⟨g, cap, cur, e, hB, hh, _⟩
    · rw [e] at hb; cases hb
    · rw [e] at hb
      have : g = b := by simpa [Value.ownBlock] using hb
      subst this
      exact ⟨hB, cur, hh⟩
  have hl7 := hW'.low.grown hg hW'.low.size (fun b hb => (hrow b hb).1)
  refine ⟨hl7, ⟨⟨?_, fun q hq => ?_⟩, fun q hq => ?_⟩, ?_⟩
  · rw [flatV_append, List.length_append, hn]; exact hown
  · rcases List.mem_append.1 hq with hq | hq
    · exact h.doc.own.vals q hq
    · rw [List.mem_singleton.1 hq]
      obtain ⟨ao, c, e, _⟩ := ht
      exact ⟨ao, _, c, e⟩
  · rcases List.mem_append.1 hq with hq | hq
    · exact ⟨(hW'.doc.prt q hq).1.grew hg (fun b hb => (hrow b hb).2), (hW'.doc.prt q hq).2⟩
    · rw [List.mem_singleton.1 hq]
      exact ⟨ht.grew hg (fun b hb => (hrow b hb).2), hl⟩
  · rw [hg.block _ (lt_of_block hW'.blk) (fun e => by
      obtain ⟨_, cs, hc⟩ := hrow _ e.symm
      exact ne_type hW'.blk hc (by decide) rfl)]
    exact hW'.blk
theorem filter_next {ps : List (Raw × Value)} {i : Nat} {q : Raw × Value} {f : Raw × Value → Bool} (h : ps[i]? = some q) : (ps.take (i + 1)).filter f = (ps.take i).filter f ++ [q].filter f := by
  rw [List.take_add_one, h]
  simp
end Go.Proofs.YtemmhingmeinjaaGreatDoor
namespace Go.Proofs.YtemmhingmeinjaaGreatDoor
open Go.RowKit

set_option maxRecDepth 20000 in
set_option maxHeartbeats 4000000 in
theorem RAfterD {w : World} {B Q n c j0 : Nat} {ao : Option Addr} {ps : List (Raw × Value)} {p k : Int} {m : List UInt8} {u : Option Addr} {un uc : Nat} {zs : List (List UInt8)} {a : Raw} (hd : DocL w B Q (.slice ao n c) ps) (hn : ps.length = n) (h60 : n ≤ 4096) (hs : Srt (ps.map Prod.fst)) (hj : (ps.map Prod.fst)[j0]? = some a) (hk : keyB a ⟨p, m, k, zs⟩ = true) :
    Calls Tryz.prog 29 #[.slice ao n c, .agg #[.int .i64 2, .int .i64 p, .string (tx m), .int .i64 k, .slice u un uc]] w fun e w' => ∃ bo bn bc qs, e = .returned (.slice bo bn bc) ∧ Hid (DocL w' w.heap.size Q (.slice bo bn bc) qs ∧ qs.length = bn ∧ qs.map Prod.fst = rmR (ps.map Prod.fst) ⟨p, m, k, zs⟩ ∧ Below w.heap.size w w') := by
  have HD := hid hd
  have HN := hid hn
  have HKEY := hid (show ∀ i q, ps[i]? = some q → (keyB q.1 ⟨p, m, k, zs⟩ = true ↔ i = j0) from fun i q hq => by
    have hq1 : (ps.map Prod.fst)[i]? = some q.1 := by rw [List.getElem?_map, hq]; rfl
    obtain ⟨o1, o2⟩ := hs.others hj hk
    constructor
    · intro hkq
      rcases Nat.lt_trichotomy i j0 with h | h | h
      · have := o1 q.1 (List.mem_take_iff_getElem.2 ⟨i, by have := (List.getElem?_eq_some_iff.1 hq1).1; omega, (List.getElem?_eq_some_iff.1 hq1).2⟩)
        rw [this] at hkq; cases hkq
      · exact h
      · have := o2 q.1 (List.mem_of_getElem? (i := i - (j0 + 1)) (by rw [List.getElem?_drop, show j0 + 1 + (i - (j0 + 1)) = i by omega]; exact hq1))
        rw [this] at hkq; cases hkq
    · rintro rfl
      rw [hj] at hq1
      injection hq1 with e
      rw [← e]; exact hk)
  have HAT := hid (show atN (ps.map Prod.fst) ⟨p, m, k, zs⟩ = (j0 : Int) from atN_at hj hk (hs.others hj hk).1)
  have hjn : j0 < n := by have := (List.getElem?_eq_some_iff.1 hj).1; rw [List.length_map, hn] at this; exact this
  obtain ⟨i0, hi, hz0, hz1, hz2⟩ := info_parts Tryz.infoRule4
  have HI := hid hi
  have HZ0 := hid hz0
  have HZ1 := hid hz1
  have HZ2 := hid hz2
  obtain ⟨g, rfl⟩ : ∃ g, ao = some ⟨g, 0, none⟩ := by
    obtain ⟨lo, lc, e, _, hf⟩ := HD.out.own.form
    injection e with e1 _ _
    subst e1
    rcases hf with ⟨_, h0⟩ | ⟨g, h1, _⟩
    · rw [h0] at hn; simp at hn; omega
    · exact ⟨g, h1⟩
  have HB1 := hid (show Below w.heap.size w (w.alloc (cob5 2 p m k (.slice u un uc))) from (Below.refl _ _).alloc (Nat.le_refl _) _)
  have HC1 := hid (new_0 w (cob5 2 p m k (.slice u un uc)))
  have HRA := hid (Rat_any (HD.out.own.on HB1.out) HN.out h60 p k m u un uc zs)
  rw [HAT.out] at HRA
  have q0 := cell_at (o := 0) HC1.out
  have q1 := cell_at (o := 1) HC1.out
  have q2 := cell_at (o := 2) HC1.out
  have q3 := cell_at (o := 3) HC1.out
  have q4 := cell_at (o := 4) HC1.out
  simp at q0 q1 q2 q3 q4
  clear hd hn hs hj hk hi hz0 hz1 hz2
  go_enter Tryz.func29, Tryz.ntmps29
  go_wp2_with fail
  refine HRA.out.mono ?_
  rintro en w2 ⟨rfl, hb2⟩
  have HA0 := hid (show AftAt w Q 2 p m k (.slice u un uc) (.slice none 0 0) [] w2 from ⟨HB1.out.trans (hb2.mono HB1.out.size), ⟨⟨World.ownsRow_nil _ _ _ _, fun q hq => by cases hq⟩, fun q hq => by cases hq⟩, below_block hb2 HC1.out (lt_of_block HC1.out)⟩)
  clear hb2 q0 q1 q2 q3 q4
  go_wp2_with fail
  go_loopw [5, 7] (fun vo vi wr => ∃ (i : Nat) (bo : Option Addr) (bn bc : Nat) (qs : List (Raw × Value)), i ≤ n ∧ vi = .int .i64 i ∧ vo = .slice bo bn bc ∧ bn ≤ i ∧ Hid (AftAt w Q 2 p m k (.slice u un uc) (.slice bo bn bc) qs wr) ∧ Hid (qs.length = bn) ∧ Hid (qs = (ps.take i).filter fun q => !keyB q.1 ⟨p, m, k, zs⟩)) (fun _ vi _ => n - (intOf vi).toNat)
  case atStart => exact ⟨0, none, 0, 0, [], Nat.zero_le _, rfl, rfl, Nat.le_refl _, HA0, rfl, rfl⟩
  case round =>
    obtain ⟨i, bo, bn, bc, qs, hi, rfl, rfl, hbn, HA, HL, HE⟩ := hrel
    rename World => wo
    by_cases hlt : i < n
    · obtain ⟨q, hq⟩ : ∃ q, ps[i]? = some q := ⟨ps[i]'(by rw [HN.out]; exact hlt), List.getElem?_eq_getElem _⟩
      have hI : (i : Int) < (n : Int) := by omega
      have hI0 : (0 : Int) ≤ (i : Int) := by omega
      have HQ := hid hq
      have HK := hid (HKEY.out i q hq)
      obtain ⟨e0, e1, e2, e3⟩ := (HD.out.own.on HA.out.low).cells hq
      have HPQ := hid (((HD.out.on HA.out.low).prt q (List.mem_of_getElem? hq)))
      obtain ⟨⟨pp, mm, kk, zz⟩, uv⟩ := q
      obtain ⟨ao1, c1, hq2, _⟩ := HPQ.out.1
      simp only at e0 e1 e2 e3 hq2 HK HPQ
      obtain ⟨an, han⟩ : ∃ an, an = zz.length := ⟨_, rfl⟩
      rw [← han] at hq2
      subst hq2
      have hcc : ∀ o, (wo.alloc o).cell? ⟨w.heap.size, 0, none⟩ = some (.int .i64 2) := fun o => by rw [cell_at (new_old _ o HA.out.blk)]; rfl
      clear hq han
      by_cases hij : i = j0
      · subst hij
        have HE2 := hid (show qs = (ps.take (i + 1)).filter fun q => !keyB q.1 ⟨p, m, k, zs⟩ by
          rw [filter_next HQ.out, ← HE.out]
          simp [HK.out.2 rfl])
        have HA2 := hid (fun o => HA.out.on (show Below wo.heap.size wo (wo.alloc o) from (Below.refl _ _).alloc (Nat.le_refl _) _))
        go_wp2
        go_roundw
        case rel => exact ⟨i + 1, bo, bn, bc, qs, by omega, by go_num, rfl, by omega, HA2.out _, HL, HE2⟩
        case measure => simp [intOf]; omega
      · have b1 : ((i : Int) == (j0 : Int)) = false := by rw [beq_eq_false_iff_ne]; omega
        have HE2 := hid (show qs ++ [((⟨pp, mm, kk, zz⟩ : Raw), Value.slice ao1 an c1)] = (ps.take (i + 1)).filter fun q => !keyB q.1 ⟨p, m, k, zs⟩ by
          rw [filter_next HQ.out, ← HE.out]
          have : keyB ⟨pp, mm, kk, zz⟩ ⟨p, m, k, zs⟩ = false := by
            cases h : keyB ⟨pp, mm, kk, zz⟩ ⟨p, m, k, zs⟩ with
            | false => rfl
            | true => exact absurd (HK.out.1 h) hij
          simp [this])
        obtain ⟨W2, hW2⟩ : ∃ W2, W2 = (wo.alloc (rob pp (tx mm) kk (.slice ao1 an c1))).alloc (rob pp (tx mm) kk (.slice ao1 an c1)) := ⟨_, rfl⟩
        have HBW := hid (show Below wo.heap.size wo W2 by rw [hW2]; exact ((Below.refl _ _).alloc (Nat.le_refl _) _).alloc (by simp) _)
        have HSZ := hid (show w.heap.size ≤ W2.heap.size from Nat.le_trans HA.out.low.size HBW.out.size)
        have HOW := hid (show W2.ownsRow w.heap.size 51 4 (.slice bo bn bc) bn (flatV qs) by have := (HA.out.doc.own.on HBW.out).own; rw [HL.out] at this; exact this)
        have HS4 := hid (show ∃ ad c, (.slice (some ⟨wo.heap.size + 1, 0, none⟩) 1 1 : Value) = .slice (some ad) 1 c ∧ ([.int .i64 pp, .string (tx mm), .int .i64 kk, .slice ao1 an c1] : List Value).length = 1 * 4 ∧ ∀ t u, ([.int .i64 pp, .string (tx mm), .int .i64 kk, .slice ao1 an c1] : List Value)[t]? = some u → W2.cell? (ad.add t) = some u from ⟨⟨wo.heap.size + 1, 0, none⟩, 1, rfl, rfl, fun t u hu => by
          have hnew := new_0 (wo.alloc (rob pp (tx mm) kk (.slice ao1 an c1))) (rob pp (tx mm) kk (.slice ao1 an c1))
          rw [show (wo.alloc (rob pp (tx mm) kk (.slice ao1 an c1))).heap.size = wo.heap.size + 1 by simp, ← hW2] at hnew
          rw [addr_add5, Nat.zero_add, cell_at hnew, ← Array.getElem?_toList]
          exact hu⟩)
        have HO1' := hid (show ∀ u ∈ ([.int .i64 pp, .string (tx mm), .int .i64 kk, .slice ao1 an c1] : List Value), u.oneCell' = true from fun u hu => by
          simp only [List.mem_cons, List.not_mem_nil, or_false] at hu
          rcases hu with rfl | rfl | rfl | rfl <;> rfl)
        have HNX := hid (show ∀ (v7 : Value) (w7 : World), w7.ownsRow w.heap.size 51 4 v7 (bn + 1) (flatV qs ++ [.int .i64 pp, .string (tx mm), .int .i64 kk, .slice ao1 an c1]) → W2.grownBy w7 (Value.slice bo bn bc).ownBlock → ∃ a7 c7, v7 = .slice a7 (bn + 1) c7 ∧ AftAt w Q 2 p m k (.slice u un uc) (.slice a7 (bn + 1) c7) (qs ++ [((⟨pp, mm, kk, zz⟩ : Raw), Value.slice ao1 an c1)]) w7 from fun v7 w7 ho hg => by
          obtain ⟨a7, c7, e⟩ := own_form ho
          subst e
          exact ⟨a7, c7, rfl, HA.out.next (r := ⟨pp, mm, kk, zz⟩) HBW.out (HPQ.out.1.on HBW.out) HPQ.out.2 ho hg HL.out⟩)
        have HL2 := hid (show (qs ++ [((⟨pp, mm, kk, zz⟩ : Raw), Value.slice ao1 an c1)]).length = bn + 1 by rw [List.length_append, HL.out]; rfl)
        subst hW2
        clear hij
        go_wp2_with (at_builtin; refine wpList_append_srcC _ rfl _ _ 36 rfl w.heap.size 51 i0 _ 4 56 Tryz.underlying36 HI.out HZ0.out HZ1.out HZ2.out rfl (by decide) (.slice bo bn bc) bn (flatV qs) rfl HOW.out _ 1 [.int .i64 pp, .string (tx mm), .int .i64 kk, .slice ao1 an c1] rfl (Or.inr HS4.out) HO1'.out (by unfold maxLen; omega) (by omega) HSZ.out ?_; intro v7 w7 hown7 hg7; obtain ⟨a7, c7, hv7, hA7⟩ := HNX.out v7 w7 hown7 hg7; subst hv7; have HA7 := hid hA7; clear hown7 hg7 hA7)
        go_roundw
        case rel => exact ⟨i + 1, a7, bn + 1, c7, _, by omega, by go_num, rfl, by omega, HA7, HL2, HE2⟩
        case measure => simp [intOf]; omega
    · have hI : ¬ ((i : Int) < (n : Int)) := by omega
      have HEND := hid (show DocL wo w.heap.size Q (.slice bo bn bc) qs ∧ qs.length = bn ∧ qs.map Prod.fst = rmR (ps.map Prod.fst) ⟨p, m, k, zs⟩ ∧ Below w.heap.size w wo from ⟨HA.out.doc, HL.out, by
        rw [HE.out, List.take_of_length_le (by rw [HN.out]; omega)]
        unfold rmR
        rw [List.filter_map]
        rfl, HA.out.low⟩)
      go_wp2
      go_ret
      exact ⟨_, _, _, rfl, _, HEND.out⟩
end Go.Proofs.YtemmhingmeinjaaGreatDoor
