/-
  The document's Print of any topology.
  The laws WordsSay and WordsBack: of any texts they answer true.
  Say by the document's own reckoning.
-/
import Derived.Test.YtebaopiedlioiaaGreatDoorWRefSAnd
import Derived.Test.YtebaopiedlioiaaGreatDoorJItoaAnd
import Derived.Test.YtebaopiedlioiaaGreatDoorJDvOAnd
import Derived.Test.YtebaopiedlioiaaGreatDoorJDocNAnd
namespace Go.Proofs.YtebaopiedlioiaaGreatDoor
open Go.RowKit

set_option maxHeartbeats 1000000 in
theorem RSay_none (ao : Option Addr) (cap : Nat) (w : World) : Calls Tryz.prog 38 #[.slice ao 0 cap] w fun e w' => e = .returned (.tuple #[.string (tx []), .int .i64 0]) ∧ Below w.heap.size w w' := by
  go_enter Tryz.func38, Tryz.ntmps38
  go_wp2
  refine wp_loop_rounds 1 ?_
  rw [rounds_succ]
  go_wp2
  refine wp_loop_rounds 1 ?_
  rw [rounds_succ]
  go_wp2
  go_ret2
  exact ⟨rfl, Below.refl _ _⟩

theorem tx_app (a b : List UInt8) : tx a ++ tx b = tx (a ++ b) := by
  apply ByteArray.ext
  simp

theorem two_kept {w w1 : World} {g a b : Nat} {u v : Value} (hg : g < w.heap.size) (h1 : w.cell? ⟨g, a, none⟩ = some u) (h2 : w.cell? ⟨g, b, none⟩ = some v) (hb : Below w.heap.size w w1) : w1.cell? ⟨g, a, none⟩ = some u ∧ w1.cell? ⟨g, b, none⟩ = some v :=
  ⟨(hb.cell (p := ⟨g, a, none⟩) hg).trans h1, (hb.cell (p := ⟨g, b, none⟩) hg).trans h2⟩

set_option maxRecDepth 4000 in
set_option maxHeartbeats 4000000 in
theorem RSay_some (ls : List (List UInt8)) (g o cap : Nat) (w : World) (hg : g < w.heap.size) (hc : ∀ i, i < ls.length → w.cell? ⟨g, o + i, none⟩ = some (.string (tx (ls.getD i [])))) (hn : ls.length ≤ 100000) (h4 : ∀ l ∈ ls, l.length ≤ 4000) :
    Calls Tryz.prog 38 #[.slice (some ⟨g, o, none⟩) ls.length cap] w fun e w' => e = .returned (.tuple #[.string (tx (sayS ls)), .int .i64 (sayE ls)]) ∧ Below w.heap.size w w' := by
  have HC := hid hc
  have H4 := hid h4
  clear hc h4
  obtain ⟨n, hnn⟩ : ∃ n, n = ls.length := ⟨_, rfl⟩
  have HN := hid hnn
  rw [← hnn] at hn ⊢
  clear hnn
  go_enter Tryz.func38, Tryz.ntmps38
  go_wp2
  go_loopw [4] (fun i wr => ∃ k : Nat, k ≤ n ∧ i = .int .i64 k ∧ Hid (∀ j, j < k → Wo.isW (ls.getD j []) = true) ∧ Hid (Below w.heap.size w wr)) (fun i _ => n - (intOf i).toNat)
  case atStart => exact ⟨0, Nat.zero_le _, rfl, fun j hj => absurd hj (Nat.not_lt_zero j), Below.refl _ _⟩
  case round =>
    obtain ⟨k, hk, rfl, HW, HL⟩ := hrel
    by_cases hlt : k < n
    · have ck : wr.cell? ⟨g, o + k, none⟩ = some (.string (tx (ls.getD k []))) := by rw [HL.out.cell (by exact hg)]; exact HC.out k (by rw [← HN.out]; exact hlt)
      obtain ⟨x, hx⟩ : ∃ x, x = ls.getD k [] := ⟨_, rfl⟩
      have hxl := getD_len ls H4.out k
      rw [← hx] at ck hxl
      have HX := hid hx
      clear hx
      have hkI : (0 : Int) ≤ (k : Int) := by omega
      have hkI2 : (k : Int) < (n : Int) := by omega
      have q := fun w => Rword_any x w (by omega)
      rcases bool_two (Wo.isW x) with h1 | h1
      · have HE := hid (show allW ls = false by
          cases hq : allW ls with
          | false => rfl
          | true => have := allW_getD.1 hq k (by rw [← HN.out]; exact hlt); rw [← HX.out, h1] at this; exact absurd this (by simp))
        rw [h1] at q
        clear h1
        go_wp2_with (go_at_call 71; refine (q _).mono ?_; rintro e w1 ⟨rfl, hb1⟩)
        go_ret2
        refine ⟨?_, HL.out.trans (hb1.mono HL.out.size)⟩
        unfold sayS sayE
        rw [HE.out]; rfl
      · have HW2 := hid (show ∀ j, j < k + 1 → Wo.isW (ls.getD j []) = true from fun j hj => by
          by_cases e : j = k
          · rw [e, ← HX.out]; exact h1
          · exact HW.out j (by omega))
        rw [h1] at q
        clear h1
        go_wp2_with (go_at_call 71; refine (q _).mono ?_; rintro e w1 ⟨rfl, hb1⟩)
        go_roundw
        case rel => exact ⟨k + 1, by omega, by go_num, HW2, HL.out.trans (hb1.mono HL.out.size)⟩
        case measure => simp [intOf]; omega
    · have HE := hid (show allW ls = true from allW_getD.2 (fun i hi => HW.out i (by rw [← HN.out] at hi; omega)))
      have HWA := hid (show ∀ j, j < n → Wo.isW (ls.getD j []) = true from fun j hj => HW.out j (by omega))
      clear HW
      rename World => wo
      go_wp2
      go_loopw [5, 6] (fun s i wr => ∃ k : Nat, k ≤ n ∧ i = .int .i64 k ∧ s = .string (tx (Wo.sayTo ls k)) ∧ Hid (Below w.heap.size w wr)) (fun _ i _ => n - (intOf i).toNat)
      case atStart => exact ⟨0, Nat.zero_le _, rfl, rfl, HL⟩
      case round =>
        obtain ⟨k, hk, rfl, rfl, HL2⟩ := hrel
        have hsl := sayTo_len ls H4.out k
        by_cases hlt : k < n
        · have ck : wr.cell? ⟨g, o + k, none⟩ = some (.string (tx (ls.getD k []))) := by rw [HL2.out.cell (by exact hg)]; exact HC.out k (by rw [← HN.out]; exact hlt)
          obtain ⟨x, hx⟩ : ∃ x, x = ls.getD k [] := ⟨_, rfl⟩
          have hxl := getD_len ls H4.out k
          have hxw := HWA.out k hlt
          rw [← hx] at ck hxl hxw
          have HX := hid hx
          have HXW := hid hxw
          clear hx hxw
          obtain ⟨t, ht⟩ : ∃ t, t = Wo.sayTo ls k := ⟨_, rfl⟩
          rw [← ht] at hsl ⊢
          have HT := hid ht
          clear ht
          have hkI : (0 : Int) ≤ (k : Int) := by omega
          have hkI2 : (k : Int) < (n : Int) := by omega
          have hov : ¬ 9223372036854775807 < t.length + x.length := by omega
          have hov1 : ¬ 9223372036854775807 < t.length + 1 := by omega
          have hov2 : ¬ 9223372036854775807 < t.length + 1 + x.length := by omega
          have hgr : g < wr.heap.size := Nat.lt_of_lt_of_le hg HL2.out.size
          by_cases hk0 : 0 < k
          · obtain ⟨y, hy⟩ : ∃ y, y = ls.getD (k - 1) [] := ⟨_, rfl⟩
            have cy : wr.cell? ⟨g, o + (k - 1), none⟩ = some (.string (tx y)) := by
              rw [HL2.out.cell (by exact hg), hy]
              exact HC.out (k - 1) (by rw [← HN.out]; omega)
            have hyl := getD_len ls H4.out (k - 1)
            have hyw := HWA.out (k - 1) (by omega)
            rw [← hy] at hyl hyw
            have hp1 : (0 : Int) ≤ (k : Int) - 1 := by omega
            have hp2 : (k : Int) - 1 < (n : Int) := by omega
            have hk0I : (0 : Int) < (k : Int) := by omega
            have hwr : IntKind.i64.wrap ((k : Int) - 1) = (k : Int) - 1 := by rw [IntKind.wrap_i64]; omega
            have hz1 : (1 : Int) ≤ (k : Int) := by omega
            have hz2 : 1 ≤ k := by omega
            have hz3 : (k : Int) < (n : Int) + 1 := by omega
            have hz4 : k < n + 1 := by omega
            have HY := hid hy
            have HYW := hid hyw
            clear hy hyw
            have q := fun w => Rglued_any y x w HYW.out HXW.out (by omega)
            rcases bool_two (Wo.glue y x) with h2 | h2
            · have HE0 := hid (show Wo.sayTo ls (k + 1) = t ++ x by
                show Wo.sayTo ls k ++ (if 0 < k ∧ Wo.glue (ls.getD (k - 1) []) (ls.getD k []) = true then [32] else []) ++ ls.getD k [] = _
                rw [← HX.out, ← HY.out, ← HT.out, h2, if_neg (by simp)]; simp)
              rw [h2] at q
              clear h2
              go_wp2_with fail
              go_region_held3 (fun w' => w'.cell? ⟨g, o + (k - 1), none⟩ = some (.string (tx y)) ∧ w'.cell? ⟨g, o + k, none⟩ = some (.string (tx x))) (first | (go_keep; done) | exact hcx) (first | (go_at_call 72; refine (q _).mono ?_; rintro e w1 ⟨rfl, hb1⟩; have hcx := two_kept hgr cy ck (undrew hb1)))
              have c1x := hcx.2
              go_wp2
              go_roundw
              case rel => exact ⟨k + 1, by omega, by go_num, by rw [HE0.out, ← tx_app], HL2.out.trans ((undrew hb1).mono HL2.out.size)⟩
              case measure => simp [intOf]; omega
            · have HE0 := hid (show Wo.sayTo ls (k + 1) = (t ++ [32]) ++ x by
                show Wo.sayTo ls k ++ (if 0 < k ∧ Wo.glue (ls.getD (k - 1) []) (ls.getD k []) = true then [32] else []) ++ ls.getD k [] = _
                rw [← HX.out, ← HY.out, ← HT.out, h2, if_pos ⟨hk0, rfl⟩])
              rw [h2] at q
              clear h2
              go_wp2_with fail
              go_region_held3 (fun w' => w'.cell? ⟨g, o + (k - 1), none⟩ = some (.string (tx y)) ∧ w'.cell? ⟨g, o + k, none⟩ = some (.string (tx x))) (first | (go_keep; done) | exact hcx) (first | (go_at_call 72; refine (q _).mono ?_; rintro e w1 ⟨rfl, hb1⟩; have hcx := two_kept hgr cy ck (undrew hb1)))
              have c1x := hcx.2
              go_wp2
              go_roundw
              case rel => exact ⟨k + 1, by omega, by go_num, by rw [HE0.out, ← tx_app, ← tx_app], HL2.out.trans ((undrew hb1).mono HL2.out.size)⟩
              case measure => simp [intOf]; omega
          · have HE0 := hid (show Wo.sayTo ls (k + 1) = t ++ x by
              show Wo.sayTo ls k ++ (if 0 < k ∧ Wo.glue (ls.getD (k - 1) []) (ls.getD k []) = true then [32] else []) ++ ls.getD k [] = _
              rw [← HX.out, ← HT.out, if_neg (by omega)]; simp)
            have hk0I : decide ((0 : Int) < (k : Int)) = false := decide_eq_false (by omega)
            go_wp2
            go_quiet (fail)
            go_wp2
            go_roundw
            case rel => exact ⟨k + 1, by omega, by go_num, by rw [HE0.out, ← tx_app], below_drewN HL2.out⟩
            case measure => simp [intOf]; omega
        · have HS := hid (show Wo.sayTo ls k = Wo.sayL ls by rw [show k = n by omega, HN.out]; exact Wo.sayTo_all ls)
          go_wp2
          go_ret2
          refine ⟨?_, HL2.out⟩
          unfold sayS sayE
          rw [HE.out, if_pos rfl, if_pos rfl, ← HS.out]
          rfl
end Go.Proofs.YtebaopiedlioiaaGreatDoor
namespace Go.Proofs.YtebaopiedlioiaaGreatDoor
open Go.RowKit

theorem RSay_any (v : Value) (ls : List (List UInt8)) (w : World) (h : Txs w v ls) (hn : ls.length ≤ 60) (h4 : ∀ l ∈ ls, l.length ≤ 4000) :
    Calls Tryz.prog 38 #[v] w fun e w' => e = .returned (.tuple #[.string (tx (sayS ls)), .int .i64 (sayE ls)]) ∧ Below w.heap.size w w' := by
  obtain ⟨ao, cap, rfl, hr⟩ := h
  rcases hr with rfl | ⟨g, o, rfl, hg, hc⟩
  · exact RSay_none ao cap w
  · exact RSay_some ls g o cap w hg hc (by omega) h4

theorem RSay_anyL (v : Value) (ls : List (List UInt8)) (w : World) (h : Txs w v ls) (hn : ls.length ≤ 200) (h4 : ∀ l ∈ ls, l.length ≤ 4000) :
    Calls Tryz.prog 38 #[v] w fun e w' => e = .returned (.tuple #[.string (tx (sayS ls)), .int .i64 (sayE ls)]) ∧ Below w.heap.size w w' := by
  obtain ⟨ao, cap, rfl, hr⟩ := h
  rcases hr with rfl | ⟨g, o, rfl, hg, hc⟩
  · exact RSay_none ao cap w
  · exact RSay_some ls g o cap w hg hc (by omega) h4
theorem RSay_anyX (v : Value) (ls : List (List UInt8)) (w : World) (h : Txs w v ls) (hn : ls.length ≤ 100000) (h4 : ∀ l ∈ ls, l.length ≤ 4000) :
    Calls Tryz.prog 38 #[v] w fun e w' => e = .returned (.tuple #[.string (tx (sayS ls)), .int .i64 (sayE ls)]) ∧ Below w.heap.size w w' := by
  obtain ⟨ao, cap, rfl, hr⟩ := h
  rcases hr with rfl | ⟨g, o, rfl, hg, hc⟩
  · exact RSay_none ao cap w
  · exact RSay_some ls g o cap w hg hc hn h4

end Go.Proofs.YtebaopiedlioiaaGreatDoor
namespace Go.Proofs.YtebaopiedlioiaaGreatDoor
open Go.RowKit

theorem TpI.grownR {w : World} {wd vd vl : Value} {W W' : World} {r : Option Nat} (h : TpI w wd vd vl W) (hg : W.grownBy W' r) (hr : ∀ k, r = some k → w.heap.size < k) : TpI w wd vd vl W' :=
  ⟨(hg.block _ (lt_of_block h.top) (fun q => by have := hr _ q.symm; omega)).trans h.top, ⟨hg.os.trans h.below.os, hg.tape.trans h.below.tape, hg.output.trans h.below.output, Nat.le_trans h.below.size hg.size, fun i hi => (hg.block i (Nat.lt_of_lt_of_le hi h.below.size) (fun q => by have := hr _ q.symm; omega)).trans (h.below.block i hi)⟩⟩
/-- What stands while a topology's text is made. -/
structure TdI (w : World) (wd vd vl v : Value) (l : List UInt8) (W : World) : Prop where
  top : TpI w wd vd vl W
  byt : BytK W (w.heap.size + 1) v l
theorem TdI.on {w : World} {wd vd vl v : Value} {l : List UInt8} {W W' : World} (h : TdI w wd vd vl v l W) (hb : Below W.heap.size W W') : TdI w wd vd vl v l W' := ⟨h.top.on hb, h.byt.same fun k q => hb.block k (h.byt.lt k q).2⟩
theorem TdI.app {w : World} {wd vd vl v v' : Value} {l l' : List UInt8} {W W' : World} (h : TdI w wd vd vl v l W) (hg : W.grownBy W' v.ownBlock) (hk : BytK W' (w.heap.size + 1) v' l') : TdI w wd vd vl v' l' W' :=
  ⟨h.top.grownR hg (fun k q => by have := (h.byt.lt k q).1; omega), hk⟩
theorem TdI.lt {w : World} {wd vd vl v : Value} {l : List UInt8} {W : World} (h : TdI w wd vd vl v l W) : w.heap.size + 1 ≤ W.heap.size := lt_of_block h.top.top

set_option maxRecDepth 20000 in
set_option maxHeartbeats 8000000 in
theorem RPrintT_any {w : World} {wd : Int} {dv lv : Option Addr} {N dc M lc : Nat} {ds : List (To.Dv × Value × Value)} {ls : List LkZ} (hD : DvL w (.slice dv N dc) ds) (hL : LkV w (.slice lv M lc) ls) (hz : DvShort ds) (hdl : ds.length ≤ 1000) (hll : ls.length ≤ 100000) (hT : PowTab w) :
    Calls Tryz.prog 15 #[.agg #[.int .i64 wd, .slice dv N dc, .slice lv M lc]] w fun e w' => e = .returned (prtV wd (ds.map (·.1)) ls) ∧ Below w.heap.size w w' := by
  obtain ⟨W0, hW0⟩ : ∃ W0, W0 = w.alloc (topJ (.int .i64 wd) (.slice dv N dc) (.slice lv M lc)) := ⟨_, rfl⟩
  have I0 := hid (show TpI w (.int .i64 wd) (.slice dv N dc) (.slice lv M lc) W0 from by rw [hW0]; exact ⟨new_0 _ _, (Below.refl _ _).alloc (Nat.le_refl _) _⟩)
  have HC := hid (RCheckT_any (wd := wd) (hD.below I0.out.below) (hL.below I0.out.below) hz (Nat.le_trans hdl (by decide)) (Nat.le_trans hll (by decide)))
  obtain ⟨t0, t1, t2⟩ := topJ_cells I0.out.top
  cases hb : topB wd (ds.map (·.1)) ls with
  | false =>
    rw [chkT_bad hb] at HC
    have HE := hid (show prtV wd (ds.map (·.1)) ls = .tuple #[.string (tx []), .int .i64 113] by unfold prtV; rw [hb]; rfl)
    clear hb hD hL hz hT
    go_enter Tryz.func15, Tryz.ntmps15
    go_wp2_with fail
    rw [← hW0]
    clear hW0
    refine HC.out.mono ?_
    rintro en w1 ⟨rfl, hb1⟩
    have I1 := hid (I0.out.on hb1)
    go_wp2
    refine bodyPost_ret (v := .tuple #[.string (tx []), .int .i64 113]) (by simp [results, Tryz.results15, go_sem]) rfl ?_
    exact ⟨by rw [HE.out], I1.out.below⟩
  | true =>
  rw [chkT_good hb] at HC
  have HE := hid (show prtV wd (ds.map (·.1)) ls = .tuple #[.string (tx (tpT wd.toNat (ds.map (·.1)) ls)), .int .i64 0] by unfold prtV; rw [hb]; rfl)
  have hok := topB_ok hb
  obtain ⟨dv', dc', e, hdv⟩ := hD.form
  injection e with e1 e2 e3
  subst e1 e3
  obtain ⟨lv', lc', e, hlv⟩ := hL.form
  injection e with e4 e5 e6
  subst e4 e6
  have HD := hid hD
  have HDV := hid hdv
  have HLV := hid hlv
  have HN := hid e2
  have HM := hid e5
  have HOK := hid hok
  obtain ⟨wn, hwn⟩ : ∃ n : Nat, wd = (n : Int) := ⟨wd.toNat, by have := hok.w1; omega⟩
  subst hwn
  have hwn1 : wn ≤ 128 := by have := hok.w2; omega
  have hN4 : N ≤ 256 := by have := hok.d2; rw [List.length_map] at this; omega
  have hM4 : M ≤ 4096 := by have := hok.l2; omega
  rw [Int.toNat_natCast] at HE
  have HIT := hid (fun (W : World) (hb : Below w.heap.size w W) => Itoa_any wn (by omega) (hT.below hb))
  obtain ⟨es, hes⟩ : ∃ es, es = ds.map (·.1) := ⟨_, rfl⟩
  have HES := hid hes
  rw [← hes] at HOK HE ⊢
  clear hb hD hL hz hT hdv hlv e2 e5 hok hes hdl hll
  go_enter Tryz.func15, Tryz.ntmps15
  go_wp2_with fail
  rw [← hW0]
  clear hW0
  refine HC.out.mono ?_
  rintro en w1 ⟨rfl, hb1⟩
  have I1 := hid (I0.out.on hb1)
  clear t0 t1 t2 hb1 I0 HC
  obtain ⟨t0, t1, t2⟩ := topJ_cells I1.out.top
  go_wp2_with fail
  refine (HIT.out _ I1.out.below).mono ?_
  rintro en w2 ⟨rfl, hb2⟩
  have I2 := hid (I1.out.on hb2)
  clear t0 t1 t2 hb2 I1
  obtain ⟨W3, hW3⟩ : ∃ W3, W3 = w2.alloc (.cells #[.string ⟨#[119, 105, 100, 116, 104]⟩, .string (tx (Lib.decDigits wn))] 9 (0, 0)) := ⟨_, rfl⟩
  have I3 := hid (show TpI w (.int .i64 wn) (.slice dv N dc) (.slice lv M lc) W3 from I2.out.on (by rw [hW3]; exact (Below.refl _ _).alloc (Nat.le_refl _) _))
  have HS3 := hid (show Txs W3 (.slice (some ⟨w2.heap.size, 0, none⟩) 2 2) (wdW wn) from by
    refine ⟨_, 2, rfl, .inr ⟨w2.heap.size, 0, rfl, by rw [hW3]; simp, fun i hi => ?_⟩⟩
    rw [cell_at (show W3.heap[w2.heap.size]? = some (.cells #[.string ⟨#[119, 105, 100, 116, 104]⟩, .string (tx (Lib.decDigits wn))] 9 (0, 0)) by rw [hW3]; exact new_0 _ _)]
    have hi2 : i < 2 := hi
    rcases (by omega : i = 0 ∨ i = 1) with rfl | rfl <;> rfl)
  have HLW := hid (show ∀ z ∈ wdW wn, z.length ≤ 64 from fun z hz => by
    unfold wdW at hz
    simp only [List.mem_cons, List.not_mem_nil, or_false] at hz
    rcases hz with rfl | rfl
    · decide
    · have : ∀ n : Nat, n ≤ 128 → (Lib.decDigits n).length ≤ 64 := by decide +kernel
      exact this wn hwn1)
  have HSY3 := hid (RSay_anyX _ _ W3 HS3.out (by show 2 ≤ 100000; omega) (fun z hz => Nat.le_trans (HLW.out z hz) (by decide)))
  obtain ⟨S0, hS0⟩ : ∃ S, S = sayS (wdW wn) := ⟨_, rfl⟩
  have hS0l : S0.length ≤ 130 := by
    have := sayS_short HLW.out
    have h2 : (wdW wn).length = 2 := rfl
    rw [h2] at this
    rw [hS0]; exact this
  have HS0 := hid hS0
  rw [← hS0] at HSY3
  clear hS0 HS3 HLW
  go_wp2_with fail
  rw [← hW3]
  clear hW3
  refine HSY3.out.mono ?_
  rintro en w4 ⟨rfl, hb4⟩
  have I4 := hid (I3.out.on hb4)
  clear hb4 I2 I3 HSY3
  obtain ⟨v5, w5, hcv, hk5, hb5⟩ := conv_bytes w4 (S0 ++ [10]) (by rw [List.length_append]; unfold maxLen; simp only [List.length_cons, List.length_nil]; omega)
  have hov0 : ¬ 9223372036854775807 < S0.length + 1 := by omega
  rw [← tx_app] at hcv
  change (convert 9 87 (.string (tx S0 ++ ⟨#[10]⟩))).run Tryz.prog w4 = _ at hcv
  have J5 := hid (show TdI w (.int .i64 wn) (.slice dv N dc) (.slice lv M lc) v5 (S0 ++ [10]) w5 from ⟨I4.out.on hb5, by
    rcases hk5 with h | ⟨g, cap, cur, e, hg, r⟩
    · exact .inl (own_baseJ h (lt_of_block I4.out.top))
    · exact .inr ⟨g, cap, cur, e, Nat.le_trans (lt_of_block I4.out.top) hg, r⟩⟩)
  obtain ⟨vo, vc, hv5⟩ := hk5.form
  rw [hv5] at hcv J5
  obtain ⟨T0, hT0⟩ : ∃ T0, T0 = S0 ++ [10] := ⟨_, rfl⟩
  have HT0 := hid hT0
  have hT0l : T0.length ≤ 200 := by rw [hT0, List.length_append]; simp only [List.length_cons, List.length_nil]; omega
  rw [← hT0] at J5 hcv
  clear hT0 hk5 hb5 hv5 I4
  obtain ⟨t0, t1, t2⟩ := topJ_cells J5.out.top.top
  go_wp2_with fail
  clear hcv t0 t1 t2
  go_loopw [6, 7] (fun u i wr => ∃ (k : Nat) (v : Value), u = v ∧ i = .int .i64 k ∧ k ≤ N ∧ Hid (TdI w (.int .i64 wn) (.slice dv N dc) (.slice lv M lc) v (T0 ++ dvsT (es.take k)) wr)) (fun _ i _ => N - (intOf i).toNat)
  case atStart => exact ⟨0, _, rfl, rfl, Nat.zero_le _, by rw [List.take_zero, show dvsT [] = [] from rfl, List.append_nil]; exact J5⟩
  case round =>
    obtain ⟨k, v, rfl, rfl, hk, hI⟩ := hrel
    obtain ⟨bo, bc, rfl⟩ := hI.out.byt.form
    obtain ⟨t0, t1, t2⟩ := topJ_cells hI.out.top.top
    have hTl : (T0 ++ dvsT (es.take k)).length ≤ 90000000 := by
      have h1 := dvsT_len (es.take k) (fun d hd => HOK.out.dv d (List.mem_of_mem_take hd))
      have h2 : (es.take k).length ≤ 256 := by rw [List.length_take]; omega
      have h3 := Nat.mul_le_mul_right 10531 h2
      rw [List.length_append]
      omega
    by_cases hlt : k < N
    · obtain ⟨⟨qd, uv, pv⟩, hq⟩ : ∃ z, ds[k]? = some z := ⟨_, List.getElem?_eq_getElem (by have := HN.out; omega)⟩
      obtain ⟨D, od, rfl, hDl, hdc⟩ := HDV.out.resolve_left (fun e => by rw [e] at hq; simp at hq)
      obtain ⟨htc, -⟩ := HD.out.cls _ (List.mem_of_getElem? hq)
      obtain ⟨htp, -⟩ := HD.out.prt _ (List.mem_of_getElem? hq)
      simp only at htc htp
      have hek : es[k]? = some qd := by rw [HES.out, List.getElem?_map, hq]; rfl
      have HDO := hid (HOK.out.dv qd (List.mem_of_getElem? hek))
      have hwD : wr.heap[D]? = w.heap[D]? := hI.out.top.below.block D hDl
      obtain ⟨z0, z1, z2⟩ := hdc k _ hq
      have y0 := (World.cell?_of_block (a := ⟨D, od + k * 3, none⟩) hwD).trans z0
      have y1 := (World.cell?_of_block (a := ⟨D, od + k * 3 + 1, none⟩) hwD).trans z1
      have y2 := (World.cell?_of_block (a := ⟨D, od + k * 3 + 2, none⟩) hwD).trans z2
      simp only at y0 y1 y2
      have kI : (k : Int) < (N : Int) := by omega
      have k0I : (0 : Int) ≤ (k : Int) := by omega
      have HCC := hid (fun (W : World) (hb : Below w.heap.size w W) => htc.below hb)
      have HPP := hid (fun (W : World) (hb : Below w.heap.size w W) => htp.below hb)
      obtain ⟨ac, cc, hvc, -⟩ := id htc
      obtain ⟨ap, cp, hvp, -⟩ := id htp
      subst hvc; subst hvp
      have HSN := hid (show T0 ++ dvsT (es.take (k + 1)) = (T0 ++ dvsT (es.take k)) ++ (sayS (dvW qd) ++ [10]) by rw [dvsT_snoc hek]; simp)
      obtain ⟨T, hTT⟩ : ∃ T, T = T0 ++ dvsT (es.take k) := ⟨_, rfl⟩
      rw [← hTT] at HSN hTl hI ⊢
      obtain ⟨nT, hnT⟩ : ∃ n, n = T.length := ⟨_, rfl⟩
      rw [← hnT] at hTl hI ⊢
      have HNT := hid hnT
      obtain ⟨nm, hnm⟩ : ∃ nm, nm = qd.name := ⟨_, rfl⟩
      obtain ⟨Lc, hLc⟩ : ∃ L, L = qd.cls.length := ⟨_, rfl⟩
      obtain ⟨Lp, hLp⟩ : ∃ L, L = qd.prt.length := ⟨_, rfl⟩
      rw [← hLc] at HCC y1
      rw [← hLp] at HPP y2
      rw [← hnm] at y0
      obtain ⟨W5, hW5⟩ : ∃ W5, W5 = wr.alloc (dvOJ nm (.slice ac Lc cc) (.slice ap Lp cp)) := ⟨_, rfl⟩
      obtain ⟨kb, hkb⟩ : ∃ kb, kb = wr.heap.size := ⟨_, rfl⟩
      have I5 := hid (show TdI w (.int .i64 wn) (.slice (some ⟨D, od, none⟩) N dc) (.slice lv M lc) (.slice bo nT bc) T W5 from hI.out.on (by rw [hW5]; exact (Below.refl _ _).alloc (Nat.le_refl _) _))
      have H5 := hid (show W5.heap[kb]? = some (dvOJ nm (.slice ac Lc cc) (.slice ap Lp cp)) by rw [hW5, hkb]; exact new_0 _ _)
      obtain ⟨W6, hW6⟩ : ∃ W6, W6 = W5.alloc (.cells #[.string ⟨#[100, 101, 118, 105, 99, 101]⟩, .string (tx nm)] 9 (0, 0)) := ⟨_, rfl⟩
      obtain ⟨rb, hrb⟩ : ∃ rb, rb = W5.heap.size := ⟨_, rfl⟩
      have HRW := hid hrb
      have hb6 : Below W5.heap.size W5 W6 := by rw [hW6]; exact (Below.refl _ _).alloc (Nat.le_refl _) _
      have I6 := hid (I5.out.on hb6)
      have H6 := hid ((hb6.block _ (lt_of_block H5.out)).trans H5.out)
      have HRB := hid (show kb < rb by rw [hrb]; exact lt_of_block H5.out)
      have hrs : rb ≤ W6.heap.size := by rw [hrb]; exact hb6.size
      have HO6 := hid (show W6.ownsRow rb 9 1 (.slice (some ⟨rb, 0, none⟩) 2 2) [To.deviceT, nm].length (svs [To.deviceT, nm]) from
        ⟨rfl, Or.inr ⟨rb, 2, #[.string (tx To.deviceT), .string (tx nm)], rfl, Nat.le_refl _, by rw [hW6, hrb]; exact new_0 _ _, Nat.le_refl _, by decide, rfl, rfl⟩⟩)
      have HUP := hid (show ∀ W, Below rb W6 W → Below w.heap.size w W from fun W hb => I6.out.top.below.trans (hb.mono (by have := lt_of_block I5.out.top.top; omega)))
      have HR1 := hid (Rrow_any HO6.out hrs (fun W hb => HCC.out W (HUP.out W hb)) (by have := HDO.out.cn; omega) (by simp) To.classT)
      have HDW := hid (show ([To.deviceT, nm] ++ mkS To.classT qd.cls qd.cls.length) ++ mkS To.portT qd.prt qd.prt.length = dvW qd by rw [hnm]; rfl)
      clear hTT hLc hLp hdc z0 z1 z2 hwD htc htp hq hek hnm hnT hb6
      go_upto_region 9 with fail
      rw [← hW5, ← hkb]
      clear hW5 hkb y0 y1 y2 t0 t1 t2
      obtain ⟨r0, r1, r2⟩ := dvOJ_cells H5.out
      obtain ⟨q0, q1, q2⟩ := dvOJ_cells H6.out
      rw [hW6] at q0 q1 q2
      go_wp2_with fail
      rw [← hrb, ← hW6]
      clear r0 r1 r2 q0 q1 q2 hW6 hrb
      refine HR1.out.mono ?_
      rintro en w7 ⟨v7, rfl, hown7, hb7⟩
      have B7 := hid hb7
      have HO7 := hid hown7
      have HR2 := hid (Rrow_any (ns := qd.prt) HO7.out (by have := B7.out.size; omega) (fun W hb => HPP.out W (HUP.out W (B7.out.trans hb))) (by have := HDO.out.pn; omega) (by rw [List.length_append, mkS_len]; have := HDO.out.cn; simp; omega) To.portT)
      rw [HDW.out] at HR2
      have h7 := (hb7.block _ HRB.out).trans H6.out
      obtain ⟨r0, r1, r2⟩ := dvOJ_cells h7
      obtain ⟨a7, c7, rfl⟩ := own_formJ hown7
      clear hown7 hb7 h7 HR1
      go_wp2_with fail
      refine HR2.out.mono ?_
      rintro en w8 ⟨v8, rfl, hown8, hb8⟩
      have B8 := hid (B7.out.trans hb8)
      have HTX := hid (own_txsP hown8)
      have HSY := hid (RSay_anyX _ _ w8 HTX.out (Nat.le_trans (dvW_short HDO.out).2 (by decide)) (fun z hz => Nat.le_trans ((dvW_short HDO.out).1 z hz) (by decide)))
      obtain ⟨S1, hS1⟩ : ∃ S, S = sayS (dvW qd) := ⟨_, rfl⟩
      have hS1l : S1.length ≤ 20000 := by
        have h1 := sayS_short (dvW_short HDO.out).1
        have h2 := Nat.mul_le_mul_right 65 (dvW_short HDO.out).2
        rw [hS1]; omega
      rw [← hS1] at HSY HSN
      obtain ⟨a8, c8, rfl⟩ := own_formJ hown8
      clear hown8 hb8 hS1 r0 r1 r2 HR2
      go_wp2_with fail
      refine HSY.out.mono ?_
      rintro en w9 ⟨rfl, hb9⟩
      have I8 := hid (show TdI w (.int .i64 wn) (.slice (some ⟨D, od, none⟩) N dc) (.slice lv M lc) (.slice bo nT bc) T w8 from by
        have e : ∀ i, i < rb → w8.heap[i]? = W6.heap[i]? := fun i hi => B8.out.block i hi
        have hlt6 := I5.out.lt
        have hrw := HRW.out
        exact ⟨⟨(e _ (by have := HRB.out; have := lt_of_block I5.out.top.top; omega)).trans I6.out.top.top, HUP.out _ B8.out⟩, I6.out.byt.same fun i q => e i (by have := (I5.out.byt.lt i q).2; omega)⟩)
      have I9 := hid (I8.out.on hb9)
      have hov1 : ¬ 9223372036854775807 < S1.length + 1 := by omega
      have h19 := I9.out.lt
      clear hb9 I8 HSY
      go_wp2_with (first | (at_builtin; refine wpList_append_bytK (w := w9) rfl (.tmp 56) (.tmp 58) rfl (B := w.heap.size + 1) (v := .slice bo nT bc) (l := T) (t := S1 ++ [10]) rfl I9.out.byt (by rw [← tx_app]; rfl) (by rw [List.length_append, ← HNT.out]; simp only [List.length_cons, List.length_nil]; omega) h19 ?_))
      intro v10 w10 hk10 hg10
      rw [← HSN.out] at hk10
      have I10 := hid (I9.out.app hg10 hk10)
      clear hk10 hg10
      go_wp2
      go_roundw
      case rel => exact ⟨k + 1, _, rfl, by go_num, by omega, I10⟩
      case measure => simp [intOf]; omega
    · have hkN : k = N := by omega
      have hkI : ¬ (k : Int) < (N : Int) := by omega
      have hfull : es.take k = es := List.take_of_length_le (by rw [HES.out, List.length_map]; have := HN.out; omega)
      rw [hfull] at hI hTl ⊢
      have hT1l : (T0 ++ dvsT es).length ≤ 3000000 := by
        have h1 := dvsT_len es HOK.out.dv
        have h2 : es.length ≤ 256 := HOK.out.d2
        have h3 := Nat.mul_le_mul_right 10531 h2
        rw [List.length_append]
        omega
      obtain ⟨T1, hT1⟩ : ∃ T1, T1 = T0 ++ dvsT es := ⟨_, rfl⟩
      have HT1 := hid hT1
      rw [← hT1] at hI hT1l ⊢
      clear hT1 hfull hTl
      go_wp2_with fail
      clear t0 t1 t2
      go_loopw [6, 12] (fun u i wz => ∃ (j : Nat) (v : Value), u = v ∧ i = .int .i64 j ∧ j ≤ M ∧ Hid (TdI w (.int .i64 wn) (.slice dv N dc) (.slice lv M lc) v (T1 ++ lksT es (ls.take j)) wz)) (fun _ i _ => M - (intOf i).toNat)
      case atStart => exact ⟨0, _, rfl, rfl, Nat.zero_le _, by rw [List.take_zero, show lksT es [] = [] from rfl, List.append_nil]; exact hI⟩
      case round =>
        obtain ⟨j, v, rfl, rfl, hj, hJ⟩ := hrel
        rename World => wz
        obtain ⟨bo, bc, rfl⟩ := hJ.out.byt.form
        obtain ⟨t0, t1, t2⟩ := topJ_cells hJ.out.top.top
        have hTl : (T1 ++ lksT es (ls.take j)).length ≤ 90000000 := by
          have h1 := lksT_len es (ls.take j) HOK.out.dv (fun x hx => HOK.out.lk x (List.mem_of_mem_take hx))
          have h2 : (ls.take j).length ≤ 4096 := by rw [List.length_take]; omega
          have h3 := Nat.mul_le_mul_right 391 h2
          rw [List.length_append]
          omega
        by_cases hlt2 : j < M
        · obtain ⟨⟨a, p, b, q⟩, hx⟩ : ∃ z, ls[j]? = some z := ⟨_, List.getElem?_eq_getElem (by have := HM.out; omega)⟩
          obtain ⟨G, o, rfl, hG, hc⟩ := HLV.out.resolve_left (fun e => by rw [e] at hx; simp at hx)
          have hlo := HOK.out.lk _ (List.mem_of_getElem? hx)
          have HLO := hid hlo
          obtain ⟨an, han⟩ : ∃ n : Nat, a = (n : Int) := ⟨a.toNat, by have := hlo.a0; simp only at this; omega⟩
          obtain ⟨bn, hbn⟩ : ∃ n : Nat, b = (n : Int) := ⟨b.toNat, by have := hlo.b0; simp only at this; omega⟩
          subst han hbn
          have han := hlo.an
          have hbn := hlo.bn
          simp only [Int.toNat_natCast] at han hbn
          rw [HES.out, List.length_map] at han hbn
          obtain ⟨⟨da, ua, va⟩, hda⟩ : ∃ z, ds[an]? = some z := ⟨_, List.getElem?_eq_getElem han⟩
          obtain ⟨⟨db, ub, vb⟩, hdb⟩ : ∃ z, ds[bn]? = some z := ⟨_, List.getElem?_eq_getElem hbn⟩
          obtain ⟨D, od, rfl, hDl, hdc⟩ := HDV.out.resolve_left (fun e => by rw [e] at hda; simp at hda)
          have HSN := hid (show T1 ++ lksT es (ls.take (j + 1)) = (T1 ++ lksT es (ls.take j)) ++ (sayS [To.linkT, da.name, p, To.arrowT, db.name, q] ++ [10]) by
            have e : lkW es ((an : Int), p, (bn : Int), q) = [To.linkT, da.name, p, To.arrowT, db.name, q] := by
              unfold lkW
              simp only [Int.toNat_natCast]
              rw [getD_at (show es[an]? = some da by rw [HES.out, List.getElem?_map, hda]; rfl), getD_at (show es[bn]? = some db by rw [HES.out, List.getElem?_map, hdb]; rfl)]
            rw [lksT_snoc es hx, e]; simp)
          have HSH := hid (show (∀ z ∈ [To.linkT, da.name, p, To.arrowT, db.name, q], z.length ≤ 64) from fun z hz => by
            simp only [List.mem_cons, List.not_mem_nil, or_false] at hz
            have h1 := (HOK.out.dv da (by rw [HES.out]; exact List.mem_map.2 ⟨_, List.mem_of_getElem? hda, rfl⟩)).name
            have h2 := (HOK.out.dv db (by rw [HES.out]; exact List.mem_map.2 ⟨_, List.mem_of_getElem? hdb, rfl⟩)).name
            have h3 := HLO.out.p
            have h4 := HLO.out.q
            rcases hz with rfl | rfl | rfl | rfl | rfl | rfl
            · decide
            · exact h1
            · exact h3
            · decide
            · exact h2
            · exact h4)
          obtain ⟨T, hTT⟩ : ∃ T, T = T1 ++ lksT es (ls.take j) := ⟨_, rfl⟩
          rw [← hTT] at HSN hTl hJ ⊢
          obtain ⟨nT, hnT⟩ : ∃ n, n = T.length := ⟨_, rfl⟩
          rw [← hnT] at hTl hJ ⊢
          have HNT := hid hnT
          have hwG : wz.heap[G]? = w.heap[G]? := hJ.out.top.below.block G hG
          obtain ⟨c0, c1, c2, c3⟩ := hc j _ hx
          have y0 := (World.cell?_of_block (a := ⟨G, o + j * 4, none⟩) hwG).trans c0
          have y1 := (World.cell?_of_block (a := ⟨G, o + j * 4 + 1, none⟩) hwG).trans c1
          have y2 := (World.cell?_of_block (a := ⟨G, o + j * 4 + 2, none⟩) hwG).trans c2
          have y3 := (World.cell?_of_block (a := ⟨G, o + j * 4 + 3, none⟩) hwG).trans c3
          simp only at y0 y1 y2 y3
          have jI : (j : Int) < (M : Int) := by omega
          have j0I : (0 : Int) ≤ (j : Int) := by omega
          have aI : (an : Int) < (N : Int) := by have := HN.out; omega
          have bI : (bn : Int) < (N : Int) := by have := HN.out; omega
          have a0I : (0 : Int) ≤ (an : Int) := by omega
          have b0I : (0 : Int) ≤ (bn : Int) := by omega
          obtain ⟨W1, hW1⟩ : ∃ W1, W1 = wz.alloc (lkO ((an : Int), p, (bn : Int), q)) := ⟨_, rfl⟩
          obtain ⟨lb, hlb⟩ : ∃ lb, lb = wz.heap.size := ⟨_, rfl⟩
          have hb1 : Below wz.heap.size wz W1 := by rw [hW1]; exact (Below.refl _ _).alloc (Nat.le_refl _) _
          have h1 : W1.heap[lb]? = some (lkO ((an : Int), p, (bn : Int), q)) := by rw [hW1, hlb]; exact new_0 _ _
          have I1 := hid (hJ.out.on hb1)
          have HST := hid (fun (W : World) (hb : Below W1.heap.size W1 W) => (by
            have e := (hb.block D (by have := I1.out.top.below.size; omega)).trans (I1.out.top.below.block D hDl)
            exact ⟨(topJ_cells (I1.out.on hb).top.top).2.1, lkO_cells ((hb.block _ (lt_of_block h1)).trans h1), (World.cell?_of_block (a := ⟨D, od + an * 3, none⟩) e).trans (hdc an _ hda).1, (World.cell?_of_block (a := ⟨D, od + bn * 3, none⟩) e).trans (hdc bn _ hdb).1⟩ : W.cell? ⟨w.heap.size, 1, none⟩ = some (.slice (some ⟨D, od, none⟩) N dc) ∧ (W.cell? ⟨lb, 0, none⟩ = some (.int .i64 an) ∧ W.cell? ⟨lb, 1, none⟩ = some (.string (tx p)) ∧ W.cell? ⟨lb, 2, none⟩ = some (.int .i64 bn) ∧ W.cell? ⟨lb, 3, none⟩ = some (.string (tx q))) ∧ W.cell? ⟨D, od + an * 3, none⟩ = some (.string (tx da.name)) ∧ W.cell? ⟨D, od + bn * 3, none⟩ = some (.string (tx db.name))))
          have I2 := hid (show Below W1.heap.size W1 (W1.drew.alloc (.cells #[.string ⟨#[108, 105, 110, 107]⟩, .string (tx da.name), .string (tx p), .string ⟨#[45, 62]⟩, .string (tx db.name), .string (tx q)] 9 (0, 0))) from ((Below.refl _ _).drew).alloc (Nat.le_refl _) _)
          have HTX := hid (show Txs (W1.drew.alloc (.cells #[.string ⟨#[108, 105, 110, 107]⟩, .string (tx da.name), .string (tx p), .string ⟨#[45, 62]⟩, .string (tx db.name), .string (tx q)] 9 (0, 0))) (.slice (some ⟨W1.heap.size, 0, none⟩) 6 6) [To.linkT, da.name, p, To.arrowT, db.name, q] from by
            refine ⟨_, 6, rfl, .inr ⟨W1.heap.size, 0, rfl, by rw [World.size_alloc]; exact Nat.lt_succ_self W1.heap.size, fun i hi => ?_⟩⟩
            rw [cell_at (show (W1.drew.alloc (.cells #[.string ⟨#[108, 105, 110, 107]⟩, .string (tx da.name), .string (tx p), .string ⟨#[45, 62]⟩, .string (tx db.name), .string (tx q)] 9 (0, 0))).heap[W1.heap.size]? = some (.cells #[.string ⟨#[108, 105, 110, 107]⟩, .string (tx da.name), .string (tx p), .string ⟨#[45, 62]⟩, .string (tx db.name), .string (tx q)] 9 (0, 0)) from new_0 W1.drew _)]
            have hi2 : i < 6 := hi
            rcases (by omega : i = 0 ∨ i = 1 ∨ i = 2 ∨ i = 3 ∨ i = 4 ∨ i = 5) with rfl | rfl | rfl | rfl | rfl | rfl <;> rfl)
          have HSY := hid (RSay_anyX _ _ _ HTX.out (by show 6 ≤ 100000; omega) (fun z hz => Nat.le_trans (HSH.out z hz) (by decide)))
          obtain ⟨S1, hS1⟩ : ∃ S, S = sayS [To.linkT, da.name, p, To.arrowT, db.name, q] := ⟨_, rfl⟩
          have hS1l : S1.length ≤ 20000 := by
            have h1 := sayS_short HSH.out
            have h2 : [To.linkT, da.name, p, To.arrowT, db.name, q].length = 6 := rfl
            rw [h2] at h1
            rw [hS1]; omega
          rw [← hS1] at HSY HSN
          obtain ⟨e1, he1⟩ : ∃ e, e = sayE [To.linkT, da.name, p, To.arrowT, db.name, q] := ⟨_, rfl⟩
          rw [← he1] at HSY
          clear hx hlo hda hdb hdc hwG c0 c1 c2 c3 hb1 h1 hTT hc han hbn HSH HTX hS1 he1 hnT
          go_upto_region 16 with fail
          rw [← hW1, ← hlb]
          clear hW1 hlb y0 y1 y2 y3 t0 t1 t2
          refine wp_region_held_drew (S := (fun W => W.cell? ⟨w.heap.size, 1, none⟩ = some (.slice (some ⟨D, od, none⟩) N dc) ∧ (W.cell? ⟨lb, 0, none⟩ = some (.int .i64 an) ∧ W.cell? ⟨lb, 1, none⟩ = some (.string (tx p)) ∧ W.cell? ⟨lb, 2, none⟩ = some (.int .i64 bn) ∧ W.cell? ⟨lb, 3, none⟩ = some (.string (tx q))) ∧ W.cell? ⟨D, od + an * 3, none⟩ = some (.string (tx da.name)) ∧ W.cell? ⟨D, od + bn * 3, none⟩ = some (.string (tx db.name)))) (by kernel_rfl) ?hSt0 (fun hHeld => ?_)
          case hSt0 => exact HST.out _ (Below.refl _ _).drew
          refine tkH (i := 0) (v := ?vt0) rfl (by kernel_rfl) (by kernel_rfl) (by kernel_rfl) (fun _ _ _ h => h) (by rfl) ?yt0 (by assumption) ?rt0
          case yt0 => (intro w hSw; (try dsimp only at hSw); go_simp; (try with_reducible rfl))
          (try simp only [Act.put, List.setIfInBounds_toArray, List.set_cons_zero, List.set_cons_succ])
          refine tkH (i := 1) (v := ?vt1) rfl (by kernel_rfl) (by kernel_rfl) (by kernel_rfl) (fun _ _ _ h => h) (by rfl) ?yt1 (by assumption) ?rt1
          case yt1 => (intro w hSw; (try dsimp only at hSw); go_simp; (try with_reducible rfl))
          (try simp only [Act.put, List.setIfInBounds_toArray, List.set_cons_zero, List.set_cons_succ])
          refine tkH (i := 2) (v := ?vt2) rfl (by kernel_rfl) (by kernel_rfl) (by kernel_rfl) (fun _ _ _ h => h) (by rfl) ?yt2 (by assumption) ?rt2
          case yt2 => (intro w hSw; (try dsimp only at hSw); go_simp; (try with_reducible rfl))
          (try simp only [Act.put, List.setIfInBounds_toArray, List.set_cons_zero, List.set_cons_succ])
          refine tkH (i := 3) (v := ?vt3) rfl (by kernel_rfl) (by kernel_rfl) (by kernel_rfl) (fun _ _ _ h => h) (by rfl) ?yt3 (by assumption) ?rt3
          case yt3 => (intro w hSw; (try dsimp only at hSw); go_simp; (try with_reducible rfl))
          (try simp only [Act.put, List.setIfInBounds_toArray, List.set_cons_zero, List.set_cons_succ])
          refine tkH (i := 4) (v := ?vt4) rfl (by kernel_rfl) (by kernel_rfl) (by kernel_rfl) (fun _ _ _ h => h) (by rfl) ?yt4 (by assumption) ?rt4
          case yt4 => (intro w hSw; (try dsimp only at hSw); go_simp; (try with_reducible rfl))
          (try simp only [Act.put, List.setIfInBounds_toArray, List.set_cons_zero, List.set_cons_succ])
          refine tkH (i := 5) (v := ?vt5) rfl (by kernel_rfl) (by kernel_rfl) (by kernel_rfl) (fun _ _ _ h => h) (by rfl) ?yt5 (by assumption) ?rt5
          case yt5 => (intro w hSw; (try dsimp only at hSw); go_simp; (try with_reducible rfl))
          (try simp only [Act.put, List.setIfInBounds_toArray, List.set_cons_zero, List.set_cons_succ])
          refine tkH (i := 6) (v := ?vt6) rfl (by kernel_rfl) (by kernel_rfl) (by kernel_rfl) (fun _ _ _ h => h) (by rfl) ?yt6 (by assumption) ?rt6
          case yt6 => (intro w hSw; (try dsimp only at hSw); go_simp; (try with_reducible rfl))
          (try simp only [Act.put, List.setIfInBounds_toArray, List.set_cons_zero, List.set_cons_succ])
          refine tkH (i := 7) (v := ?vt7) rfl (by kernel_rfl) (by kernel_rfl) (by kernel_rfl) (fun _ _ _ h => h) (by rfl) ?yt7 (by assumption) ?rt7
          case yt7 => (intro w hSw; (try dsimp only at hSw); go_simp; (try with_reducible rfl))
          (try simp only [Act.put, List.setIfInBounds_toArray, List.set_cons_zero, List.set_cons_succ])
          refine tkH (i := 8) (v := ?vt8) rfl (by kernel_rfl) (by kernel_rfl) (by kernel_rfl) (fun _ _ _ h => h) (by rfl) ?yt8 (by assumption) ?rt8
          case yt8 => (intro w hSw; (try dsimp only at hSw); go_simp; (try with_reducible rfl))
          (try simp only [Act.put, List.setIfInBounds_toArray, List.set_cons_zero, List.set_cons_succ])
          refine tkH (i := 9) (v := ?vt9) rfl (by kernel_rfl) (by kernel_rfl) (by kernel_rfl) (fun _ _ _ h => h) (by rfl) ?yt9 (by assumption) ?rt9
          case yt9 => (intro w hSw; (try dsimp only at hSw); go_simp; (try with_reducible rfl))
          (try simp only [Act.put, List.setIfInBounds_toArray, List.set_cons_zero, List.set_cons_succ])
          refine tkH (i := 10) (v := ?vt10) rfl (by kernel_rfl) (by kernel_rfl) (by kernel_rfl) (fun _ _ _ h => h) (by rfl) ?yt10 (by assumption) ?rt10
          case yt10 => (intro w hSw; (try dsimp only at hSw); go_simp; (try with_reducible rfl))
          (try simp only [Act.put, List.setIfInBounds_toArray, List.set_cons_zero, List.set_cons_succ])
          refine tkH (i := 11) (v := ?vt11) rfl (by kernel_rfl) (by kernel_rfl) (by kernel_rfl) (fun _ _ _ h => h) (by rfl) ?yt11 (by assumption) ?rt11
          case yt11 => (intro w hSw; (try dsimp only at hSw); go_simp; (try with_reducible rfl))
          (try simp only [Act.put, List.setIfInBounds_toArray, List.set_cons_zero, List.set_cons_succ])
          refine tkH (i := 12) (v := ?vt12) rfl (by kernel_rfl) (by kernel_rfl) (by kernel_rfl) (fun _ _ _ h => h) (by rfl) ?yt12 (by assumption) ?rt12
          case yt12 => (intro w hSw; (try dsimp only at hSw); go_simp; (try with_reducible rfl))
          (try simp only [Act.put, List.setIfInBounds_toArray, List.set_cons_zero, List.set_cons_succ])
          refine tkH (i := 13) (v := ?vt13) rfl (by kernel_rfl) (by kernel_rfl) (by kernel_rfl) (fun _ _ _ h => h) (by rfl) ?yt13 (by assumption) ?rt13
          case yt13 => (intro w hSw; (try dsimp only at hSw); go_simp; (try with_reducible rfl))
          (try simp only [Act.put, List.setIfInBounds_toArray, List.set_cons_zero, List.set_cons_succ])
          refine tkH (i := 14) (v := ?vt14) rfl (by kernel_rfl) (by kernel_rfl) (by kernel_rfl) (fun _ _ _ h => h) (by rfl) ?yt14 (by assumption) ?rt14
          case yt14 => (intro w hSw; (try dsimp only at hSw); go_simp; (try with_reducible rfl))
          (try simp only [Act.put, List.setIfInBounds_toArray, List.set_cons_zero, List.set_cons_succ])
          refine tkH (i := 15) (v := ?vt15) rfl (by kernel_rfl) (by kernel_rfl) (by kernel_rfl) (fun _ _ _ h => h) (by rfl) ?yt15 (by assumption) ?rt15
          case yt15 => (intro w hSw; (try dsimp only at hSw); go_simp; (try with_reducible rfl))
          (try simp only [Act.put, List.setIfInBounds_toArray, List.set_cons_zero, List.set_cons_succ])
          refine tkH (i := 16) (v := ?vt16) rfl (by kernel_rfl) (by kernel_rfl) (by kernel_rfl) (fun _ _ _ h => h) (by rfl) ?yt16 (by assumption) ?rt16
          case yt16 => (intro w hSw; (try dsimp only at hSw); go_simp; (try with_reducible rfl))
          (try simp only [Act.put, List.setIfInBounds_toArray, List.set_cons_zero, List.set_cons_succ])
          refine tkH (i := 17) (v := ?vt17) rfl (by kernel_rfl) (by kernel_rfl) (by kernel_rfl) (fun _ _ _ h => h) (by rfl) ?yt17 (by assumption) ?rt17
          case yt17 => (intro w hSw; (try dsimp only at hSw); go_simp; (try with_reducible rfl))
          (try simp only [Act.put, List.setIfInBounds_toArray, List.set_cons_zero, List.set_cons_succ])
          refine caH (i := 18) rfl (by kernel_rfl) (by rfl) (fun K hK => ?_)
          go_simp
          refine hK.out _ _ (HST.out _ I2.out) (fun hHeld => ?_)
          clear hK K
          (try simp only [Act.put, List.setIfInBounds_toArray, List.set_cons_zero, List.set_cons_succ])
          refine caH (i := 19) rfl (by kernel_rfl) (by rfl) (fun K hK => ?_)
          go_simp
          refine HSY.out.mono ?_
          rintro en w9 ⟨rfl, hb9⟩
          have B9 := hid (I2.out.trans (hb9.mono I2.out.size))
          clear hb9
          refine hK.out _ _ (HST.out _ B9.out) (fun hHeld => ?_)
          clear hK K
          (try simp only [Act.put, List.setIfInBounds_toArray, List.set_cons_zero, List.set_cons_succ])
          refine tkH (i := 20) (v := ?vt20) rfl (by kernel_rfl) (by kernel_rfl) (by kernel_rfl) (fun _ _ _ h => h) (by rfl) ?yt20 (by assumption) ?rt20
          case yt20 => (intro w hSw; (try dsimp only at hSw); go_simp; (try with_reducible rfl))
          (try simp only [Act.put, List.setIfInBounds_toArray, List.set_cons_zero, List.set_cons_succ])
          refine tkH (i := 21) (v := ?vt21) rfl (by kernel_rfl) (by kernel_rfl) (by kernel_rfl) (fun _ _ _ h => h) (by rfl) ?yt21 (by assumption) ?rt21
          case yt21 => (intro w hSw; (try dsimp only at hSw); go_simp; (try with_reducible rfl))
          (try simp only [Act.put, List.setIfInBounds_toArray, List.set_cons_zero, List.set_cons_succ])
          refine tkH (i := 22) (v := ?vt22) rfl (by kernel_rfl) (by kernel_rfl) (by kernel_rfl) (fun _ _ _ h => h) (by rfl) ?yt22 (by assumption) ?rt22
          case yt22 => (intro w hSw; (try dsimp only at hSw); go_simp; (try with_reducible rfl))
          (try simp only [Act.put, List.setIfInBounds_toArray, List.set_cons_zero, List.set_cons_succ])
          refine tkH (i := 23) (v := ?vt23) rfl (by kernel_rfl) (by kernel_rfl) (by kernel_rfl) (fun _ _ _ h => h) (by rfl) ?yt23 (by assumption) ?rt23
          case yt23 => (intro w hSw; (try dsimp only at hSw); go_simp; (try with_reducible rfl))
          (try simp only [Act.put, List.setIfInBounds_toArray, List.set_cons_zero, List.set_cons_succ])
          refine tkH (i := 24) (v := ?vt24) rfl (by kernel_rfl) (by kernel_rfl) (by kernel_rfl) (fun _ _ _ h => h) (by rfl) ?yt24 (by assumption) ?rt24
          case yt24 => (intro w hSw; (try dsimp only at hSw); go_simp; (try with_reducible rfl))
          (try simp only [Act.put, List.setIfInBounds_toArray, List.set_cons_zero, List.set_cons_succ])
          refine wpAnyH_done (by kernel_rfl) ?_ _
          have I9 := hid (I1.out.on B9.out)
          have hov1 : ¬ 9223372036854775807 < S1.length + 1 := by omega
          have h19 := I9.out.lt
          clear HST I2 HSY B9 I1
          go_wp2_with (first | (at_builtin; refine wpList_append_bytK (w := w9) rfl (.tmp 95) (.tmp 97) rfl (B := w.heap.size + 1) (v := .slice bo nT bc) (l := T) (t := S1 ++ [10]) rfl I9.out.byt (by rw [← tx_app]; rfl) (by rw [List.length_append, ← HNT.out]; simp only [List.length_cons, List.length_nil]; omega) h19 ?_))
          intro v10 w10 hk10 hg10
          rw [← HSN.out] at hk10
          have I10 := hid (I9.out.app hg10 hk10)
          clear hk10 hg10
          go_wp2
          go_roundw
          case rel => exact ⟨j + 1, _, rfl, by go_num, by omega, I10⟩
          case measure => simp [intOf]; omega
        · have hjI : ¬ (j : Int) < (M : Int) := by omega
          have hfull : ls.take j = ls := List.take_of_length_le (by have := HM.out; omega)
          rw [hfull] at hJ hTl ⊢
          have HFT := hid (show tpT wn es ls = T1 ++ lksT es ls by unfold tpT; rw [HT1.out, HT0.out, HS0.out])
          obtain ⟨T, hTT⟩ : ∃ T, T = T1 ++ lksT es ls := ⟨_, rfl⟩
          rw [← hTT] at hJ HFT ⊢
          have hcv := bytK_conv hJ.out.byt
          clear hTT hfull hTl
          go_wp2
          refine bodyPost_ret (v := .tuple #[.string (tx T), .int .i64 0]) (by simp [results, Tryz.results15, go_sem]) rfl ?_
          exact ⟨by rw [HE.out, HFT.out], hJ.out.top.below⟩
end Go.Proofs.YtebaopiedlioiaaGreatDoor
