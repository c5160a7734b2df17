/-
  The document's ite: the two halves, the node, what is kept of it.
  The document's ite: what was reckoned.
  The document's Cube.
  The document's Letters.
  The document's tell.
-/
import Derived.Test.YtffngpdngjfcfaaDReadAnd
import Derived.Laws.AppendOwnNone
import Derived.Test.YtffngpdngjfcfaaBIteAnd
import Derived.Test.YtffngpdngjfcfaaReadAnd
import Derived.Test.YtffngpdngjfcfaaBNobodyAnd
namespace Go.Proofs.Ytffngpdngjfcfaa
open Go.RowKit Go.Maps
open Bd (Nd)

theorem boos_one (l : List Bool) : ∀ u ∈ boos l, u.oneCell' = true := by
  intro u hu
  obtain ⟨b, _, rfl⟩ := List.mem_map.1 hu
  rfl
/-- append of a row of marks, nil or not, onto one of one's own. -/
theorem wpList_append_boo {P : Program} (w : World) {ops : Array Oper} {rest : List Oper} {o : Oper} {a : Act} {Q : Exit → Act → World → Prop} (hgd : o.guard = none) (s x : Operand) (t : TypeId)
    (ho : o.op = .call { callee := .builtin .append, args := #[s, x], argTypes := #[t, t] })
    (base : Nat) (e : TypeId) (i : TypeInfo) (z : Value) (bytes : Nat) (ht : P.underlying t = some (.slice e)) (hi : P.info? e = some i) (hz : i.zero = some z)
    (hsize : i.size = 1) (hby : i.bytes = bytes) (hzs : z.cells.size = 1)
    (g c : Nat) (hs : a.eval s = .slice (some ⟨g, 0, none⟩) 0 c) (hown : w.ownsRow base e 1 (.slice (some ⟨g, 0, none⟩) 0 c) 0 [])
    (vx : Value) (m : Nat) (U : List Bool) (hx : a.eval x = vx) (hsrc : w.ownsRow 0 e 1 vx m (boos U))
    (h63 : m ≤ maxLen) (hbytes : m * bytes ≤ 140737488355328) (hbase : base ≤ w.heap.size)
    (h : ∀ g' cap w', w'.ownsRow base e 1 (.slice (some ⟨g', 0, none⟩) m cap) m (boos U) → w.grownBy w' (some g) → (g' = g ∨ g' = w.heap.size) → wpList P ops Q rest (a.put o.dst (.slice (some ⟨g', 0, none⟩) m cap)) w') :
    wpList P ops Q (o :: rest) a w := by
  have h0 := hsrc
  rcases hsrc.2 with ⟨rfl, rfl⟩ | ⟨gx, cap, cur, rfl, _, hg, _⟩
  · refine wpList_append_own_none hgd s x t ho base e i 1 ht hi _ 0 [] hs hown hx ?_
    have hU : U = [] := by have := h0.1; rw [boos_length] at this; exact List.length_eq_zero_iff.1 (by omega)
    refine h g c w ?_ ⟨rfl, rfl, rfl, Nat.le_refl _, fun _ _ _ => rfl⟩ (Or.inl rfl)
    rw [hU]
    exact hown
  · have hl := h0.1
    refine wpList_append_own_at w hgd s x t ho base e i z 1 bytes ht hi hz hsize hby hzs (by decide) _ 0 [] hs hown ⟨gx, 0, none⟩ m cap (boos U) hx hl (fun j u hj => h0.cells rfl j u hj) (boos_one U) (by omega) (by rw [Nat.zero_add]; exact hbytes) hbase ?_
    intro v' w' h1 h2 h3 h4
    rw [Nat.zero_add] at h1
    obtain ⟨ao, cp, hv⟩ := row_slice h1
    have hne : v' ≠ .slice none 0 0 := fun e => by
      have := h3.1 e
      simp at this
    rcases h1.2 with ⟨e, _⟩ | ⟨g', cp', cur', e, _⟩
    · exact absurd e hne
    · subst e
      refine h g' cp' w' h1 h2 ?_
      rcases h4 with e | e
      · left; simp [Value.ownBlock] at e; exact e
      · right; simp [Value.ownBlock] at e; exact e

theorem row_zero {w : World} {base e size n : Nat} {v : Value} {xs : List Value} (h : w.ownsRow base e size v n xs) : w.ownsRow 0 e size v n xs := by
  refine ⟨h.1, ?_⟩
  rcases h.2 with q | ⟨g, cap, cur, e, _, h2⟩
  · exact Or.inl q
  · exact Or.inr ⟨g, cap, cur, e, Nat.zero_le _, h2⟩
def cntB (l : List Bool) : Nat := l.count true
theorem cntB_le (l : List Bool) : cntB l ≤ l.length := List.count_le_length
theorem cntB_succ {U : List Bool} {j : Nat} {b : Bool} (h : U[j]? = some b) : cntB (U.take (j + 1)) = cntB (U.take j) + (if b = true then 1 else 0) := by
  unfold cntB
  rw [List.take_add_one, h]
  cases b <;> simp

def QSt.tell (s : QSt) (a : Nat) : QSt := { s with U := markF s.L (s.L.length + 1) a s.U, T := if a < 2 then s.T else s.T.set (a - 2) true }

/-- The marks are the table's own. -/
theorem qtell_tab {w w1 : World} {y : QLay} {s : QSt} {a g cap : Nat} (hT : QTab w1 y s) (ha : a < s.L.length + 2) (hrow : w1.ownsRow 0 4 1 (.slice (some ⟨g, 0, none⟩) s.L.length cap) s.L.length (boos (markF s.L (s.L.length + 1) a s.U))) (hg : ¬ y.own g) (hgw : w.heap.size ≤ g) (hb : Below w.heap.size w w1) (_hy : ∀ k, y.own k → k < w.heap.size) :
    ∃ gt ct, (2 ≤ a → y.ts = .slice (some ⟨gt, 0, none⟩) s.L.length ct ∧ gt ≠ y.tb) ∧
    QTab (if a < 2 then w1.setCell ⟨y.tb, 3, none⟩ (.slice (some ⟨g, 0, none⟩) s.L.length cap) else (w1.setCell ⟨y.tb, 3, none⟩ (.slice (some ⟨g, 0, none⟩) s.L.length cap)).setCell ⟨gt, a - 2, none⟩ (.bool true)) { y with us := .slice (some ⟨g, 0, none⟩) s.L.length cap } (s.tell a) ∧
    Touch y.own (QLay.own { y with us := .slice (some ⟨g, 0, none⟩) s.L.length cap }) w (if a < 2 then w1.setCell ⟨y.tb, 3, none⟩ (.slice (some ⟨g, 0, none⟩) s.L.length cap) else (w1.setCell ⟨y.tb, 3, none⟩ (.slice (some ⟨g, 0, none⟩) s.L.length cap)).setCell ⟨gt, a - 2, none⟩ (.bool true)) := by
  obtain ⟨a1, a2, a3, a4, a5⟩ := hT.apart
  have hgt : g ≠ y.tb := fun e => hg (by rw [e]; exact y.own_tb)
  have hset := set_block (o := 3) (.slice (some ⟨g, 0, none⟩) s.L.length cap) hT.cells
  have hnot : ∀ k, y.own k → k ≠ g := fun k hk e => hg (by rw [← e]; exact hk)
  -- the table behind the first store
  have T1 : QTab (w1.setCell ⟨y.tb, 3, none⟩ (.slice (some ⟨g, 0, none⟩) s.L.length cap)) { y with us := .slice (some ⟨g, 0, none⟩) s.L.length cap } { s with U := markF s.L (s.L.length + 1) a s.U } :=
    { cells := by rw [hset]; rfl
      list := row_same hT.list fun g' hg' => set_other _ (fun e => a1 (by rw [hg', e]))
      used := row_same hrow fun g' hg' => set_other _ (by simp [Value.ownBlock] at hg'; rw [← hg']; exact hgt)
      told := row_same hT.told fun g' hg' => set_other _ (fun e => a3 (by rw [hg', e]))
      two := fun g' e1 e2 => by simp [Value.ownBlock] at e1; subst e1; exact hg (y.own_ts e2)
      okay := hT.okay
      small := hT.small }
  have Tch : Touch y.own (QLay.own { y with us := .slice (some ⟨g, 0, none⟩) s.L.length cap }) w (w1.setCell ⟨y.tb, 3, none⟩ (.slice (some ⟨g, 0, none⟩) s.L.length cap)) := by
    refine ⟨fun k hk => ?_, hb.os, hb.tape, hb.output, by have := hb.size; simpa using this, fun k hk hn => ?_⟩
    · rcases hk with e | e | e | e
      · exact Or.inl (Or.inl e)
      · exact Or.inl (y.own_ns e)
      · simp [Value.ownBlock] at e; right; omega
      · exact Or.inl (y.own_ts e)
    · rw [set_other _ (fun e => hn (by rw [show k = y.tb from e]; exact y.own_tb))]
      exact hb.block k hk
  by_cases h2 : a < 2
  · refine ⟨0, 0, fun h => by omega, ?_, ?_⟩
    · rw [if_pos h2]
      have e : s.tell a = { s with U := markF s.L (s.L.length + 1) a s.U } := by unfold QSt.tell; rw [if_pos h2]
      rw [e]
      exact T1
    · rw [if_pos h2]; exact Tch
  · obtain ⟨gt, ct, hv, _, hgl⟩ := hT.told.form (by omega)
    have hto : y.ts.ownBlock = some gt := by rw [hv]; rfl
    have hgtb : gt ≠ y.tb := fun e => a3 (by rw [hto, e])
    have hl := T1.told
    have hv' : ({ y with us := .slice (some ⟨g, 0, none⟩) s.L.length cap } : QLay).ts = .slice (some ⟨gt, 0, none⟩) s.L.length ct := hv
    rw [hv'] at hl
    obtain ⟨hst, hgr⟩ := hl.stored (a - 2) (.bool true)
    rw [boos_set] at hst
    refine ⟨gt, ct, fun _ => ⟨hv, hgtb⟩, ?_, ?_⟩
    · rw [if_neg h2]
      have e : s.tell a = { s with U := markF s.L (s.L.length + 1) a s.U, T := s.T.set (a - 2) true } := by unfold QSt.tell; rw [if_neg h2]
      rw [e]
      have hgg : g ≠ gt := fun e => hg (by rw [e]; exact y.own_ts hto)
      refine { cells := ?_, list := ?_, used := ?_, told := ?_, two := T1.two, okay := T1.okay, small := T1.small }
      · rw [set_other _ (fun e => hgtb (Eq.symm e))]; exact T1.cells
      · exact row_same T1.list fun g' hg' => set_other _ (fun e => a5 g' hg' (by rw [hto]; exact congrArg some (Eq.symm e)))
      · exact row_same T1.used fun g' hg' => set_other _ (fun e => by simp [Value.ownBlock] at hg'; exact hgg (hg'.trans e))
      · show World.ownsRow _ 0 4 1 y.ts s.L.length (boos (s.T.set (a - 2) true))
        rw [hv]
        exact hst
    · rw [if_neg h2]
      refine Tch.trans ⟨fun k hk => Or.inl hk, rfl, rfl, rfl, by simp, fun k hk hn => set_other _ (fun e => hn (by rw [show k = gt from e]; exact QLay.own_ts _ hto))⟩

set_option maxRecDepth 2000 in
set_option maxHeartbeats 4000000 in
theorem qtell_any {w : World} {y : QLay} {s : QSt} (hT : QTab w y s) (a : Nat) (ha : a < s.L.length + 2) :
    Calls Try.prog 69 #[.pointer (some ⟨y.tb, 0, none⟩), i6 a] w fun e w' =>
      (s.limit < cntB (s.tell a).U ∧ e = .returned (.tuple #[.int .i64 0, .int .i64 20]) ∧ Below w.heap.size w w') ∨
      (cntB (s.tell a).U ≤ s.limit ∧ e = .returned (.tuple #[i6 a, .int .i64 0]) ∧ ∃ y', QTab w' y' (s.tell a) ∧ Touch y.own y'.own w w' ∧ y'.tb = y.tb) := by
  obtain ⟨i1, hi1, hy0, hy1, hy2⟩ := info_parts Try.infoBoo
  have HI1 := keep hi1
  have HY0 := keep hy0
  have HY1 := keep hy1
  have HY2 := keep hy2
  have HT := keep hT
  have HA := keep ha
  have hsm := hT.small
  have c3 := hT.cell3
  have ltb := hT.lt y.own_tb
  obtain ⟨n, hn⟩ : ∃ n, n = s.L.length := ⟨_, rfl⟩
  have HN := keep hn
  have hlimI : (s.limit : Int) ≤ 1048576 := by omega
  have hnI : (n : Int) ≤ 1073741824 := by omega
  clear hT hi1 hy0 hy1 hy2 hsm hn
  go_enter Try.func69, Try.ntmps69
  have HO := keep (World.ownsRow_lit (e := 4) (size := 1) w #[] 0 (Nat.le_refl _) (by unfold maxLen; omega) rfl)
  have HU : Hid (∀ o, (w.alloc o).ownsRow 0 4 1 y.us n (boos s.U)) := fun o => by rw [HN.out]; exact HT.out.used.alloc o
  go_wp2_with (at_builtin; refine wpList_append_boo _ rfl (.tmp 9) (.tmp 13) 111 rfl w.heap.size 4 i1 (.bool false) 1 Try.underlying111 HI1.out HY0.out HY1.out HY2.out rfl w.heap.size 0 rfl HO.out y.us n s.U rfl (HU.out _) (by unfold maxLen; omega) (by omega) (by simp) ?_)
  intro g cap w1 hown1 hgrow1 hat1
  have hB1 : Below w.heap.size w w1 := ((Below.refl _ _).alloc (Nat.le_refl _) _).grown hgrow1 (by simp) (fun k hk => by simp at hk; omega)
  have hgw : w.heap.size ≤ g := (hown1.lt g rfl).1
  have hgn : ¬ y.own g := fun ho => by have := HT.out.lt ho; omega
  have T1 := HT.out.below hB1
  have hrow1 : w1.ownsRow 0 4 1 (.slice (some ⟨g, 0, none⟩) n cap) n (boos s.U) := row_zero hown1
  have HC : Hid (Calls Try.prog 93 #[.pointer (some ⟨y.tb, 0, none⟩), i6 a, .slice (some ⟨g, 0, none⟩) n cap] w1 fun e w2 => e = .returned (.tuple #[]) ∧ Marked w1 g cap n (s.tell a).U w2) := by
    have := mark_any (s := s) g cap hgn s.L.length a (by omega) (by omega) w1 s.U T1 T1.lenU (by rw [HN.out] at hrow1; exact hrow1)
    rw [← HN.out] at this
    rw [HN.out] at this ⊢
    exact this
  have HB1 := keep hB1
  have HT1 := keep T1
  clear hown1 hgrow1 hat1 T1 hrow1 HO HU hB1
  go_wp2_with fail
  refine HC.out.mono ?_
  rintro e w2 ⟨rfl, hm⟩
  have HM := keep hm
  have hlV : (s.tell a).U.length = n := by
    have := hm.row.1
    rw [boos_length] at this
    omega
  have HLV := keep hlV
  have HB2 : Hid (Below w.heap.size w w2) := ⟨hm.os.trans HB1.out.os, hm.tape.trans HB1.out.tape, hm.output.trans HB1.out.output, by rw [hm.size]; exact HB1.out.size, fun k hk => (hm.block k (by omega)).trans (HB1.out.block k hk)⟩
  have HT2 : Hid (QTab w2 y s) := HT1.out.same fun k hk => hm.block k (fun e => hgn (by rw [← e]; exact hk))
  clear hm HC hlV
  go_wp2
  obtain ⟨V, hV⟩ : ∃ V, V = (s.tell a).U := ⟨_, rfl⟩
  have HVV := keep hV
  rw [← hV] at HM HLV
  clear hV
  go_loopw [7, 8] (fun p i wr => ∃ j : Nat, j ≤ n ∧ i = .int .i64 j ∧ p = .int .i64 (cntB (V.take j)) ∧ wr = w2) (fun _ i _ => n - (intOf i).toNat)
  case atStart => exact ⟨0, Nat.zero_le _, rfl, rfl, rfl⟩
  case round =>
    obtain ⟨j, hj, rfl, rfl, rfl⟩ := hrel
    have hcj : (cntB (V.take j) : Int) ≤ 1073741824 := by
      have h1 := cntB_le (V.take j)
      have h2 : (V.take j).length ≤ j := List.length_take_le _ _
      omega
    by_cases hlt : j < n
    · obtain ⟨b, hb⟩ : ∃ b, V[j]? = some b := ⟨V[j]'(by rw [HLV.out]; exact hlt), List.getElem?_eq_getElem (by rw [HLV.out]; exact hlt)⟩
      have HS := keep (cntB_succ hb)
      have cb : wr.cell? ⟨g, j, none⟩ = some (.bool b) := by
        rw [HM.out.row.cellAt j (by omega)]
        simp [boos, hb]
      have hjI : (j : Int) < (n : Int) := by omega
      obtain ⟨q, hq⟩ : ∃ q, q = cntB (V.take j) := ⟨_, rfl⟩
      rw [← hq] at hcj ⊢
      have HQ := keep hq
      clear hb hq
      cases b
      · go_wp2
        go_roundw
        case rel => exact ⟨j + 1, by omega, by go_num, by rw [HS.out, ← HQ.out]; rfl, by first | trivial | rfl⟩
        case measure => simp [intOf]; omega
      · go_wp2
        go_roundw
        case rel => exact ⟨j + 1, by omega, by go_num, by rw [HS.out, ← HQ.out]; simp, by first | trivial | rfl⟩
        case measure => simp [intOf]; omega
    · have hjn : j = n := by omega
      subst hjn
      have hall : V.take j = V := by rw [← HLV.out]; exact List.take_length
      rw [hall] at hcj ⊢
      have c1 := HT2.out.cell1
      obtain ⟨q, hq⟩ : ∃ q, q = cntB V := ⟨_, rfl⟩
      rw [← hq] at hcj ⊢
      have HQ : Hid (q = cntB (s.tell a).U) := by rw [← HVV.out]; exact hq
      clear hall hq
      rcases Nat.lt_or_ge s.limit q with hfull | hfit
      · have hfI : (s.limit : Int) < (q : Int) := by omega
        go_wp2
        go_ret2
        exact Or.inl ⟨by rw [← HQ.out]; exact hfull, rfl, HB2.out⟩
      · have hfI : ¬ (s.limit : Int) < (q : Int) := by omega
        have hrowV := HM.out.row
        rw [HVV.out] at hrowV
        have hrowV' : wr.ownsRow 0 4 1 (.slice (some ⟨g, 0, none⟩) s.L.length cap) s.L.length (boos (markF s.L (s.L.length + 1) a s.U)) := by
          rw [HN.out] at hrowV
          exact hrowV
        obtain ⟨gt, ct, hts, hTT, hTch⟩ := qtell_tab HT2.out HA.out hrowV' hgn hgw HB2.out (fun k hk => HT.out.lt hk)
        rw [← HN.out] at hTT hTch hts
        have c3' := HT2.out.cell3
        have c4' := HT2.out.cell4
        have f3 : wr.frozen? ⟨y.tb, 3, none⟩ = false := not_frozen HT2.out.cells
        by_cases h2 : a < 2
        · rw [if_pos h2] at hTT hTch
          have hI2 : ¬ (2 : Int) ≤ (a : Int) := by omega
          have HR := keep (And.intro hTT hTch)
          clear hTT hTch hts hrowV hrowV'
          go_wp2
          go_ret2
          exact Or.inr ⟨by rw [← HQ.out]; exact hfit, rfl, _, HR.out.1, HR.out.2, rfl⟩
        · rw [if_neg h2] at hTT hTch
          obtain ⟨htsE, hgtb⟩ := hts (by omega)
          obtain ⟨i, rfl⟩ : ∃ i, a = i + 2 := ⟨a - 2, by omega⟩
          rw [htsE] at c4'
          have hi : i < s.L.length := by have := HA.out; omega
          have ct4 := HT2.out.told
          rw [htsE, ← HN.out] at ct4
          obtain ⟨bt, hbt⟩ : ∃ bt, wr.cell? ⟨gt, i, none⟩ = some (.bool bt) := by
            rw [ct4.cellAt i (by rw [HN.out]; omega)]
            have := HT2.out.lenT
            exact ⟨s.T[i]'(by omega), by simp [boos, List.getElem?_eq_getElem (show i < s.T.length by omega)]⟩
          have fgt := ct4.frozenAt i
          have HR := keep (And.intro hTT hTch)
          have e1 : ((i + 2 : Nat) : Int) = (i : Int) + 2 := by omega
          have hIn : (i : Int) < (j : Int) := by have := HN.out; omega
          simp only [i6, e1]
          clear hTT hTch hts hrowV hrowV' htsE ct4 hi e1
          go_wp2
          go_ret2
          exact Or.inr ⟨by rw [← HQ.out]; exact hfit, by simp, _, HR.out.1, HR.out.2, rfl⟩
end Go.Proofs.Ytffngpdngjfcfaa
namespace Go.Proofs.Ytffngpdngjfcfaa
open Go.RowKit Go.Maps
open Bd (Nd)

def letB (t : ByteArray) (bits : Nat) : Bool := decide (t.size = bits) && t.data.toList.all Cu.sym
theorem all_take_succ {l : List UInt8} {j : Nat} {c : UInt8} (h : l[j]? = some c) : (l.take (j + 1)).all Cu.sym = ((l.take j).all Cu.sym && Cu.sym c) := by
  rw [List.take_add_one, h]
  simp
theorem all_false {l : List UInt8} {j : Nat} {c : UInt8} (h : l[j]? = some c) (hc : Cu.sym c = false) : l.all Cu.sym = false := by
  rw [Bool.eq_false_iff]
  intro ha
  have := List.all_eq_true.1 ha c (List.mem_of_getElem? h)
  rw [hc] at this
  cases this
theorem u8_ne {c : UInt8} {n : Nat} (hn : n < 256) (h : c ≠ UInt8.ofNat n) : ((c.toNat : Int) == (n : Int)) = false := by
  rw [beq_eq_false_iff_ne]
  intro e
  apply h
  apply UInt8.toNat.inj
  rw [UInt8.toNat_ofNat']
  omega

set_option maxRecDepth 2000 in
set_option maxHeartbeats 2000000 in
theorem qletters_any (t : ByteArray) (bits : Nat) (w : World) (ht : t.size ≤ maxLen) : Calls Try.prog 67 #[.string t, .int .i64 bits, .string ⟨#[48, 49, 120]⟩] w fun e w' => e = .returned (.bool (letB t bits)) ∧ Below w.heap.size w w' := by
  unfold maxLen at ht
  by_cases hs : t.size = bits
  · have hne : ((t.size : Int) != (bits : Int)) = false := by rw [hs]; simp
    have HS := keep hs
    clear hs
    have z0 : ((⟨#[48, 49, 120]⟩ : ByteArray)[0]'(by decide)).toNat = 48 := rfl
    have z1 : ((⟨#[48, 49, 120]⟩ : ByteArray)[1]'(by decide)).toNat = 49 := rfl
    have z2 : ((⟨#[48, 49, 120]⟩ : ByteArray)[2]'(by decide)).toNat = 120 := rfl
    go_enter Try.func67, Try.ntmps67
    go_wp2
    go_loopw [7] (fun i wr => ∃ j : Nat, j ≤ t.size ∧ i = .int .i64 j ∧ Hid ((t.data.toList.take j).all Cu.sym = true) ∧ Hid (Below w.heap.size w wr)) (fun i _ => t.size - (intOf i).toNat)
    case atStart => exact ⟨0, Nat.zero_le _, rfl, rfl, Below.refl _ _⟩
    case round =>
      obtain ⟨j, hj, rfl, HA, HB⟩ := hrel
      by_cases hlt : j < t.size
      · have hg : t.data.toList[j]? = some (t[j]'hlt) := by
          rw [List.getElem?_eq_getElem (by simpa using hlt)]
          rfl
        have HG := keep hg
        clear hg
        have hjI : (j : Int) < (t.size : Int) := by omega
        have hj0 : (0 : Int) ≤ (j : Int) := by omega
        obtain ⟨c, hc⟩ : ∃ c, c = t[j]'hlt := ⟨_, rfl⟩
        have hct : (t[j]'hlt).toNat = c.toNat := by rw [hc]
        rw [← hc] at HG
        clear hc
        by_cases h48 : c = 48
        · have hcn : (c.toNat : Int) = 48 := by rw [h48]; rfl
          have HS2 : Hid ((t.data.toList.take (j + 1)).all Cu.sym = true) := by
            show _ = _
            rw [all_take_succ HG.out, HA.out, h48]; rfl
          clear h48
          go_wp2
          refine wp_loop_rounds 4 ?_
          rw [rounds_succ]
          go_wp2
          go_quiet (fail)
          go_wp2
          rw [rounds_succ]
          go_wp2
          go_quiet (fail)
          go_wp2
          rw [rounds_succ]
          go_wp2
          go_quiet (fail)
          go_wp2
          rw [rounds_succ]
          go_wp2
          go_roundw
          case rel => exact ⟨j + 1, by omega, by go_num, HS2, below_drewN HB.out _⟩
          case measure => simp [intOf]; omega
        · by_cases h49 : c = 49
          · have n0 : ((c.toNat : Int) == 48) = false := u8_ne (c := c) (n := 48) (by omega) h48
            have hcn : (c.toNat : Int) = 49 := by rw [h49]; rfl
            clear h48
            have HS2 : Hid ((t.data.toList.take (j + 1)).all Cu.sym = true) := by
              show _ = _
              rw [all_take_succ HG.out, HA.out, h49]; rfl
            clear h49
            go_wp2
            refine wp_loop_rounds 4 ?_
            rw [rounds_succ]
            go_wp2
            go_quiet (fail)
            go_wp2
            rw [rounds_succ]
            go_wp2
            go_quiet (fail)
            go_wp2
            rw [rounds_succ]
            go_wp2
            go_quiet (fail)
            go_wp2
            rw [rounds_succ]
            go_wp2
            go_roundw
            case rel => exact ⟨j + 1, by omega, by go_num, HS2, below_drewN HB.out _⟩
            case measure => simp [intOf]; omega
          · by_cases h120 : c = 120
            · have n0 : ((c.toNat : Int) == 48) = false := u8_ne (c := c) (n := 48) (by omega) h48
              have n1 : ((c.toNat : Int) == 49) = false := u8_ne (c := c) (n := 49) (by omega) h49
              have hcn : (c.toNat : Int) = 120 := by rw [h120]; rfl
              clear h48 h49
              have HS2 : Hid ((t.data.toList.take (j + 1)).all Cu.sym = true) := by
                show _ = _
                rw [all_take_succ HG.out, HA.out, h120]; rfl
              clear h120
              go_wp2
              refine wp_loop_rounds 4 ?_
              rw [rounds_succ]
              go_wp2
              go_quiet (fail)
              go_wp2
              rw [rounds_succ]
              go_wp2
              go_quiet (fail)
              go_wp2
              rw [rounds_succ]
              go_wp2
              go_quiet (fail)
              go_wp2
              rw [rounds_succ]
              go_wp2
              go_roundw
              case rel => exact ⟨j + 1, by omega, by go_num, HS2, below_drewN HB.out _⟩
              case measure => simp [intOf]; omega
            · have n0 : ((c.toNat : Int) == 48) = false := u8_ne (c := c) (n := 48) (by omega) h48
              have n1 : ((c.toNat : Int) == 49) = false := u8_ne (c := c) (n := 49) (by omega) h49
              have n2 : ((c.toNat : Int) == 120) = false := u8_ne (c := c) (n := 120) (by omega) h120
              have HF : Hid (letB t bits = false) := by
                show letB t bits = false
                unfold letB
                rw [all_false HG.out (by unfold Cu.sym; simp [h48, h49, h120])]
                simp
              clear h48 h49 h120
              go_wp2
              refine wp_loop_rounds 4 ?_
              rw [rounds_succ]
              go_wp2
              go_quiet (fail)
              go_wp2
              rw [rounds_succ]
              go_wp2
              go_quiet (fail)
              go_wp2
              rw [rounds_succ]
              go_wp2
              go_quiet (fail)
              go_wp2
              rw [rounds_succ]
              go_wp2

              go_ret
              exact ⟨by rw [HF.out]; rfl, below_drewN HB.out _⟩
      · have hjn : j = t.size := by omega
        subst hjn
        have HF : Hid (letB t bits = true) := by
          show letB t bits = true
          unfold letB
          have h := HA.out
          rw [List.take_of_length_le (by simp)] at h
          rw [h, decide_eq_true HS.out]; rfl
        go_wp2
        go_ret
        exact ⟨by rw [HF.out]; rfl, HB.out⟩
  · have hne : ((t.size : Int) != (bits : Int)) = true := by rw [bne_iff_ne]; omega
    have HL : Hid (letB t bits = false) := by show letB t bits = false; unfold letB; rw [decide_eq_false hs]; rfl
    clear hs
    go_enter Try.func67, Try.ntmps67
    go_wp2
    go_ret
    exact ⟨by rw [HL.out]; rfl, Below.refl _ _⟩
end Go.Proofs.Ytffngpdngjfcfaa
namespace Go.Proofs.Ytffngpdngjfcfaa
open Go.RowKit Go.Maps
open Bd (Nd)

theorem QGrew.chain {M : Nat} {s : QSt} {A : Bd.Fam s.bits M} {w w1 w2 : World} {y y1 : QLay} {N1 : List Nd} {r : Nat} {f : Bd.Fn} (hm : Touch y.own y1.own w w1) (htb : y1.tb = y.tb) (h : QGrew (s := s.grow N1) A w1 y1 w2 r f) : QGrew A w y s w2 r f := by
  obtain ⟨N2, y2, h1, h2, h3, h4, h5, h6⟩ := h.ex
  have e : (s.grow N1).L ++ N2 = s.L ++ (N1 ++ N2) := List.append_assoc _ _ _
  rw [e] at h2 h3 h4
  rw [QSt.grow_grow] at h1
  exact ⟨N1 ++ N2, y2, h1, h2, h3, h4, hm.trans h5, h6.trans htb⟩

/-- What a call that tells a function leaves: it is told, or too great. -/
structure QTells {bits M : Nat} (A : Bd.Fam bits M) (w : World) (y : QLay) (s : QSt) (f : Bd.Fn) (e : Ending) (w' : World) : Prop where
  ex : ∃ N y' r, Bd.Within A (s.L ++ N) ∧ r < (s.L ++ N).length + 2 ∧ Bd.den (s.L ++ N) r = f ∧ Touch y.own y'.own w w' ∧ y'.tb = y.tb ∧
    ((s.limit < cntB ((s.grow N).tell r).U ∧ e = .returned (.tuple #[.int .i64 0, .int .i64 20]) ∧ QTab w' y' (s.grow N)) ∨ (cntB ((s.grow N).tell r).U ≤ s.limit ∧ e = .returned (.tuple #[i6 r, .int .i64 0]) ∧ QTab w' y' ((s.grow N).tell r)))

theorem QGrew.tells {M : Nat} {s : QSt} {A : Bd.Fam s.bits M} {w w1 : World} {y : QLay} {r : Nat} {f : Bd.Fn} (h : QGrew A w y s w1 r f) : Calls Try.prog 69 #[.pointer (some ⟨y.tb, 0, none⟩), i6 r] w1 fun e w' => QTells A w y s f e w' := by
  obtain ⟨N, y1, h1, h2, h3, h4, h5, h6⟩ := h.ex
  have h := qtell_any h1 r h3
  rw [h6] at h
  refine h.mono ?_
  rintro e w' (⟨q1, rfl, q2⟩ | ⟨q1, rfl, y2, q2, q3, q4⟩)
  · exact ⟨N, y1, r, h2, h3, h4, h5.trans (touch_below _ q2), h6, Or.inl ⟨q1, rfl, h1.below q2⟩⟩
  · exact ⟨N, y2, r, h2, h3, h4, h5.trans q3, q4, Or.inr ⟨q1, rfl, q2⟩⟩

/-- A call's answer is that of its last one. -/
theorem QTells.form {bits M : Nat} {A : Bd.Fam bits M} {w w' : World} {y : QLay} {s : QSt} {f : Bd.Fn} {e : Ending} (h : QTells A w y s f e w') : ∃ a b : Int, e = .returned (.tuple #[.int .i64 a, .int .i64 b]) ∧ QTells A w y s f (.returned (.tuple #[.int .i64 a, .int .i64 b])) w' := by
  obtain ⟨N, y', r, h1, h2, h3, h4, h5, (⟨q1, rfl, q2⟩ | ⟨q1, rfl, q2⟩)⟩ := h.ex
  · exact ⟨0, 20, rfl, h⟩
  · exact ⟨r, 0, rfl, h⟩

set_option maxHeartbeats 1000000 in
theorem qcube_bad {w : World} {y : QLay} {s : QSt} (hT : QTab w y s) (t : ByteArray) (ht : t.size ≤ maxLen) (hl : letB t s.bits = false) :
    Calls Try.prog 32 #[.pointer (some ⟨y.tb, 0, none⟩), .string t] w fun e w' => e = .returned (.tuple #[.int .i64 0, .int .i64 21]) ∧ Below w.heap.size w w' := by
  have c0 := hT.cell0
  have q := qletters_any t s.bits w ht
  rw [hl] at q
  have Q := keep q
  clear hT q hl
  go_enter Try.func32, Try.ntmps32
  go_wp2_with fail
  refine Q.out.mono ?_
  rintro e w1 ⟨rfl, hb⟩
  have HB := keep hb
  clear hb
  go_wp2
  go_ret2
  exact ⟨rfl, HB.out⟩

set_option maxHeartbeats 2000000 in
theorem qcube_ok {M : Nat} {w : World} {y : QLay} {s : QSt} (A : Bd.Fam s.bits M) (hT : QTab w y s) (hW : Bd.Within A s.L) (hbM : s.bits * M ≤ 1048576) (t : ByteArray) (hl : letB t s.bits = true) (hF : A.F 0 (suf t 0)) :
    Calls Try.prog 32 #[.pointer (some ⟨y.tb, 0, none⟩), .string t] w fun e w' => QTells A w y s (suf t 0) e w' := by
  have hf128 := hT.okay.few
  have ht : t.size = s.bits := by unfold letB at hl; simp at hl; exact hl.1
  have hsuf := suf_fam (A := A) (by omega) hF
  have H : Hid (∀ (k r : Nat) (wr : World), k < t.size → QGrew A w y s wr r (suf t (k + 1)) → (t.data.toList.getD k 0 = 48 → Calls Try.prog 68 #[.pointer (some ⟨y.tb, 0, none⟩), i6 k, i6 r, i6 0] wr fun e w' => ∃ r', e = .returned (i6 r') ∧ Hid (QGrew A w y s w' r' (suf t k))) ∧
      (t.data.toList.getD k 0 = 49 → Calls Try.prog 68 #[.pointer (some ⟨y.tb, 0, none⟩), i6 k, i6 0, i6 r] wr fun e w' => ∃ r', e = .returned (i6 r') ∧ Hid (QGrew A w y s w' r' (suf t k))) ∧
      (t.data.toList.getD k 0 ≠ 48 → t.data.toList.getD k 0 ≠ 49 → QGrew A w y s wr r (suf t k))) := by
    intro k r wr hk hG
    obtain ⟨N, y1, t1, wi1, hr1, d1, m1, tb1⟩ := hG.ex
    have hlen : (0 : Nat) < (s.L ++ N).length + 2 := by omega
    have hkb : k < s.bits := by omega
    have hb1 : k < Bd.bitOf (s.L ++ N) r := by
      have := Bd.bit_ge t1.okay (r := r) (k := k + 1) hr1 (by show Bd.From (k + 1) (Bd.den (s.L ++ N) r); rw [d1]; exact suf_from _ _) (by omega)
      exact this
    have hb0 : k < Bd.bitOf (s.L ++ N) 0 := by rw [Bd.bitOf_end _ (by omega)]; omega
    refine ⟨fun h0 => ?_, fun h0 => ?_, fun h0 h1 => ?_⟩
    · have h := qnode_any (s := s.grow N) A t1 wi1 hbM k r 0 hkb hr1 hlen hb1 hb0 (by
        show A.F k (Bd.mux k (Bd.den (s.L ++ N) r) (Bd.den (s.L ++ N) 0))
        rw [d1, Bd.den_zero, ← suf_zero hk h0]; exact hsuf k (by omega))
      rw [tb1] at h
      refine h.mono ?_
      rintro e w' ⟨r', rfl, hg⟩
      refine ⟨r', rfl, QGrew.chain (N1 := N) m1 tb1 ?_⟩
      have e : Bd.mux k (Bd.den (s.L ++ N) r) (Bd.den (s.L ++ N) 0) = suf t k := by rw [d1, Bd.den_zero, ← suf_zero hk h0]
      rw [← e]; exact hg
    · have h := qnode_any (s := s.grow N) A t1 wi1 hbM k 0 r hkb hlen hr1 hb0 hb1 (by
        show A.F k (Bd.mux k (Bd.den (s.L ++ N) 0) (Bd.den (s.L ++ N) r))
        rw [d1, Bd.den_zero, ← suf_one hk h0]; exact hsuf k (by omega))
      rw [tb1] at h
      refine h.mono ?_
      rintro e w' ⟨r', rfl, hg⟩
      refine ⟨r', rfl, QGrew.chain (N1 := N) m1 tb1 ?_⟩
      have e : Bd.mux k (Bd.den (s.L ++ N) 0) (Bd.den (s.L ++ N) r) = suf t k := by rw [d1, Bd.den_zero, ← suf_one hk h0]
      rw [← e]; exact hg
    · rw [suf_free h0 h1]; exact hG
  have c0 := hT.cell0
  have q := qletters_any t s.bits w (by unfold maxLen; omega)
  rw [hl] at q
  have Q := keep q
  have H0 : Hid (∀ w1, Below w.heap.size w w1 → QGrew A w y s w1 1 (suf t t.size)) := fun w1 hb => QGrew.same hT hW (by omega) (by rw [Bd.den_one, suf_end]) hb
  have hsz : t.size ≤ 128 := by omega
  have hszI : (t.size : Int) ≤ 128 := by omega
  clear hT hW ht hF hsuf hf128 q hl
  go_enter Try.func32, Try.ntmps32
  go_wp2_with fail
  refine Q.out.mono ?_
  rintro e w1 ⟨rfl, hb1⟩
  have HB1 := keep hb1
  clear hb1
  go_wp2_with fail
  go_loopw [6, 7] (fun u i wr => ∃ k r : Nat, k ≤ t.size ∧ u = .int .i64 r ∧ i = .int .i64 ((k : Int) - 1) ∧ Hid (QGrew A w y s wr r (suf t k))) (fun _ i _ => ((intOf i) + 1).toNat)
  case atStart => exact ⟨t.size, 1, Nat.le_refl _, rfl, rfl, H0.out w1 HB1.out⟩
  case round =>
    obtain ⟨k, r, hk, rfl, rfl, hG⟩ := hrel
    cases k with
    | zero =>
      have HC := keep (QGrew.tells hG.out)
      go_wp2_with fail
      refine HC.out.mono ?_
      intro e w' hq
      obtain ⟨x, z, rfl, hq'⟩ := hq.form
      have HQ := keep hq'
      clear hq hq'
      go_wp2
      go_ret2
      exact HQ.out
    | succ k =>
      have e1 : ((k + 1 : Nat) : Int) - 1 = (k : Int) := by omega
      rw [e1]
      have hkI : (k : Int) < (t.size : Int) := by omega
      have hk0 : (0 : Int) ≤ (k : Int) := by omega
      have HK := keep (H.out k r wr (by omega) hG)
      clear hG e1
      have hl : k < t.size := by omega
      have hg : t.data.toList.getD k 0 = t[k]'hl := by
        rw [List.getD_eq_getElem?_getD, List.getElem?_eq_getElem (by simpa using hl)]
        rfl
      by_cases h48 : t.data.toList.getD k 0 = 48
      · have hcn : ((t[k]'hl).toNat : Int) = 48 := by rw [← hg, h48]; rfl
        clear hg
        go_wp2_with (first | (go_at_call 68; refine (HK.out.1 h48).mono ?_; rintro e w' ⟨r', rfl, hG'⟩))
        go_roundw
        case rel => exact ⟨k, r', by omega, rfl, rfl, hG'⟩
        case measure => simp [intOf]
      · by_cases h49 : t.data.toList.getD k 0 = 49
        · have hcn : ((t[k]'hl).toNat : Int) = 49 := by rw [← hg, h49]; rfl
          clear hg
          go_wp2_with (first | (go_at_call 68; refine (HK.out.2.1 h49).mono ?_; rintro e w' ⟨r', rfl, hG'⟩))
          go_roundw
          case rel => exact ⟨k, r', by omega, rfl, rfl, hG'⟩
          case measure => simp [intOf]
        · have n1 : (((t[k]'hl).toNat : Int) == 48) = false := by
            rw [beq_eq_false_iff_ne]; intro h; exact h48 (by rw [hg]; exact UInt8.toNat.inj (by simp; omega))
          have n2 : (((t[k]'hl).toNat : Int) == 49) = false := by
            rw [beq_eq_false_iff_ne]; intro h; exact h49 (by rw [hg]; exact UInt8.toNat.inj (by simp; omega))
          have HG := keep (HK.out.2.2 h48 h49)
          clear hg
          go_wp2_with fail
          go_roundw
          case rel => exact ⟨k, r, by omega, rfl, rfl, HG.out⟩
          case measure => simp [intOf]
end Go.Proofs.Ytffngpdngjfcfaa
namespace Go.Proofs.Ytffngpdngjfcfaa
open Go.RowKit Go.Maps
open Bd (Nd)

/-- Three numbers, and what came of them. -/
abbrev Dn := Nat × Nat × Nat × Nat
def dones (D : List Dn) : List Value := D.flatMap fun d => [i6 d.1, i6 d.2.1, i6 d.2.2.1, i6 d.2.2.2]
theorem dones_snoc (D : List Dn) (d : Dn) : dones (D ++ [d]) = dones D ++ [i6 d.1, i6 d.2.1, i6 d.2.2.1, i6 d.2.2.2] := by simp [dones]
theorem dones_length (D : List Dn) : (dones D).length = D.length * 4 := by
  induction D with
  | nil => rfl
  | cons x l ih => simp [dones] at ih ⊢; omega
theorem dones_at {D : List Dn} {i : Nat} {d : Dn} (h : D[i]? = some d) : (dones D)[i * 4]? = some (i6 d.1) ∧ (dones D)[i * 4 + 1]? = some (i6 d.2.1) ∧ (dones D)[i * 4 + 2]? = some (i6 d.2.2.1) ∧ (dones D)[i * 4 + 3]? = some (i6 d.2.2.2) := by
  induction D generalizing i with
  | nil => simp at h
  | cons y l ih =>
    cases i with
    | zero => simp at h; subst h; simp [dones]
    | succ i =>
      have := ih (i := i) (by simpa using h)
      have e : ∀ j, (dones (y :: l))[(i + 1) * 4 + j]? = (dones l)[i * 4 + j]? := by
        intro j
        have : (i + 1) * 4 + j = (i * 4 + j) + 4 := by omega
        rw [this]
        simp [dones]
      exact ⟨by rw [← Nat.add_zero ((i + 1) * 4), e]; exact this.1, by rw [e]; exact this.2.1, by rw [e]; exact this.2.2.1, by rw [e]; exact this.2.2.2⟩

structure MemoAt (w : World) (mb : Nat) (mv : Value) (D : List Dn) : Prop where
  cell : w.heap[mb]? = some (.cells #[mv] 122 (0, 0))
  row : w.ownsRow 0 158 4 mv D.length (dones D)
def keyD (d : Dn) : Nat × Nat × Nat := (d.1, d.2.1, d.2.2.1)
structure MemoOk (L : List Nd) (D : List Dn) : Prop where
  nd : (D.map keyD).Nodup
  fit : ∀ d, d ∈ D → d.1 < L.length + 2 ∧ d.2.1 < L.length + 2 ∧ d.2.2.1 < L.length + 2 ∧ d.2.2.2 < L.length + 2 ∧ (d.2.1 < 2 ∨ d.2.2.1 < 2) ∧ Bd.den L d.2.2.2 = Bd.iteF (Bd.den L d.1) (Bd.den L d.2.1) (Bd.den L d.2.2.1)
/-- Entries that hang on no bit ahead of kk. -/
def Late (L : List Nd) (kk : Nat) (E : List Dn) : Prop := ∀ d, d ∈ E → kk ≤ Bd.bitOf L d.1 ∧ kk ≤ Bd.bitOf L d.2.1 ∧ kk ≤ Bd.bitOf L d.2.2.1

section
variable {w w' : World} {mb : Nat} {mv : Value} {D E : List Dn} {L N : List Nd}
theorem MemoOk.nil (L : List Nd) : MemoOk L [] := ⟨List.nodup_nil, fun d h => by simp at h⟩
theorem MemoOk.grow (h : MemoOk L D) (N : List Nd) : MemoOk (L ++ N) D := by
  refine ⟨h.nd, fun d hd => ?_⟩
  obtain ⟨h1, h2, h3, h4, h5, h6⟩ := h.fit d hd
  have e : (L ++ N).length = L.length + N.length := List.length_append
  refine ⟨by omega, by omega, by omega, by omega, h5, ?_⟩
  rw [Bd.den_append_old _ _ h4, Bd.den_append_old _ _ h1, Bd.den_append_old _ _ h2, Bd.den_append_old _ _ h3]
  exact h6
theorem Late.grow {kk : Nat} (h : Late L kk E) (hk : ∀ d, d ∈ E → d.1 < L.length + 2 ∧ d.2.1 < L.length + 2 ∧ d.2.2.1 < L.length + 2) (N : List Nd) : Late (L ++ N) kk E := fun d hd => by
  obtain ⟨h1, h2, h3⟩ := hk d hd
  rw [Bd.bitOf_old _ _ h1, Bd.bitOf_old _ _ h2, Bd.bitOf_old _ _ h3]
  exact h d hd
theorem Late.mono {kk k : Nat} (h : Late L k E) (hk : kk ≤ k) : Late L kk E := fun d hd => ⟨Nat.le_trans hk (h d hd).1, Nat.le_trans hk (h d hd).2.1, Nat.le_trans hk (h d hd).2.2⟩
theorem MemoAt.lt (h : MemoAt w mb mv D) : mb < w.heap.size ∧ ∀ g, mv.ownBlock = some g → g < w.heap.size := ⟨block_lt h.cell, fun g hg => (h.row.lt g hg).2⟩
theorem MemoAt.same (h : MemoAt w mb mv D) (h1 : w'.heap[mb]? = w.heap[mb]?) (h2 : ∀ g, mv.ownBlock = some g → w'.heap[g]? = w.heap[g]?) : MemoAt w' mb mv D := ⟨h1.trans h.cell, row_same h.row h2⟩
theorem MemoAt.below (h : MemoAt w mb mv D) (hb : Below w.heap.size w w') : MemoAt w' mb mv D := h.same (hb.block _ h.lt.1) (fun g hg => hb.block _ (h.lt.2 g hg))
theorem MemoAt.apart (h : MemoAt w mb mv D) : mv.ownBlock ≠ some mb := fun e => by obtain ⟨cur, hc⟩ := owned_cells h.row e; rw [h.cell] at hc; simp at hc
/-- A memo is no part of a table. -/
theorem MemoAt.far (h : MemoAt w mb mv D) {y : QLay} {s : QSt} (hT : QTab w y s) : ¬ y.own mb ∧ ∀ g, mv.ownBlock = some g → ¬ y.own g := by
  refine ⟨fun ho => ?_, fun g hg ho => ?_⟩
  · obtain ⟨cur, t, hc, ht⟩ := hT.kind ho
    rw [h.cell] at hc
    rcases ht with rfl | rfl | rfl <;> simp at hc
  · obtain ⟨cur, t, hc, ht⟩ := hT.kind ho
    obtain ⟨cur', hc'⟩ := owned_cells h.row hg
    rw [hc] at hc'
    rcases ht with rfl | rfl | rfl <;> simp at hc'
theorem MemoAt.done (h : MemoAt w mb mv D) {i : Nat} {d : Dn} (hx : D[i]? = some d) :
    ∃ g cap, mv = .slice (some ⟨g, 0, none⟩) D.length cap ∧ w.cell? ⟨g, i * 4, none⟩ = some (.int .i64 d.1) ∧ w.cell? ⟨g, i * 4 + 1, none⟩ = some (.int .i64 d.2.1) ∧ w.cell? ⟨g, i * 4 + 2, none⟩ = some (.int .i64 d.2.2.1) ∧ w.cell? ⟨g, i * 4 + 3, none⟩ = some (.int .i64 d.2.2.2) := by
  have hi := Bd.getElem?_lt hx
  obtain ⟨g, cap, hv, _, _⟩ := h.row.form (by omega)
  have hl := h.row
  rw [hv] at hl
  have hadd : ∀ j, (⟨g, 0, none⟩ : Addr).add j = ⟨g, j, none⟩ := by intro j; unfold Addr.add; split <;> simp_all
  obtain ⟨f0, f1, f2, f3⟩ := dones_at hx
  have d0 := hl.cells rfl _ _ f0
  have d1 := hl.cells rfl _ _ f1
  have d2 := hl.cells rfl _ _ f2
  have d3 := hl.cells rfl _ _ f3
  rw [hadd] at d0 d1 d2 d3
  exact ⟨g, cap, hv, d0, d1, d2, d3⟩
/-- A number for three. -/
def numD (P : Nat) (d : Nat × Nat × Nat) : Nat := if d.2.1 < 2 then (d.2.1 * P + d.1) * P + d.2.2 else ((2 + d.2.2) * P + d.1) * P + d.2.1
theorem numD_lt {P : Nat} {d : Nat × Nat × Nat} (h1 : d.1 < P) (h2 : d.2.1 < P) (h3 : d.2.2 < P) (h : d.2.1 < 2 ∨ d.2.2 < 2) : numD P d < 4 * P * P := by
  have key : ∀ q x z, q < 4 → x < P → z < P → (q * P + x) * P + z < 4 * P * P := by
    intro q x z hq hx hz
    have e1 : q * P ≤ 3 * P := Nat.mul_le_mul_right _ (by omega)
    have e2 : (q * P + x + 1) * P ≤ (4 * P) * P := Nat.mul_le_mul_right _ (by omega)
    rw [Nat.add_mul] at e2
    omega
  unfold numD
  split
  · exact key _ _ _ (by omega) h1 h3
  · exact key _ _ _ (by omega) h1 h2
theorem numD_inj {P : Nat} {d e : Nat × Nat × Nat} (h1 : d.1 < P) (h2 : d.2.1 < P) (h3 : d.2.2 < P) (h1' : e.1 < P) (h2' : e.2.1 < P) (h3' : e.2.2 < P) (h : numD P d = numD P e) : d = e := by
  obtain ⟨a, b, c⟩ := d
  obtain ⟨a', b', c'⟩ := e
  simp only at h1 h2 h3 h1' h2' h3'
  unfold numD at h
  simp only at h
  split at h <;> split at h
  · obtain ⟨e1, e2⟩ := Bd.mul_add_inj h3 h3' h
    obtain ⟨e3, e4⟩ := Bd.mul_add_inj h1 h1' e1
    rw [e2, e3, e4]
  · obtain ⟨e1, e2⟩ := Bd.mul_add_inj h3 h2' h
    obtain ⟨e3, e4⟩ := Bd.mul_add_inj h1 h1' e1
    omega
  · obtain ⟨e1, e2⟩ := Bd.mul_add_inj h2 h3' h
    obtain ⟨e3, e4⟩ := Bd.mul_add_inj h1 h1' e1
    omega
  · obtain ⟨e1, e2⟩ := Bd.mul_add_inj h2 h2' h
    obtain ⟨e3, e4⟩ := Bd.mul_add_inj h1 h1' e1
    have : c = c' := by omega
    rw [e2, this, e4]
theorem MemoOk.few (h : MemoOk L D) (hL : L.length ≤ 524288) : D.length ≤ 1099520016400 := by
  have := Bd.pigeon (4 * (L.length + 2) * (L.length + 2)) D.length (fun i => numD (L.length + 2) (keyD (D.getD i (0, 0, 0, 0)))) ?_ ?_
  · have e : 4 * (L.length + 2) * (L.length + 2) ≤ 4 * 524290 * 524290 := Nat.mul_le_mul (by omega) (by omega)
    omega
  · intro i hi
    have hd : D.getD i (0, 0, 0, 0) ∈ D := by rw [List.getD_eq_getElem?_getD, List.getElem?_eq_getElem hi]; exact List.getElem_mem hi
    obtain ⟨h1, h2, h3, h4, h5, h6⟩ := h.fit _ hd
    exact numD_lt h1 h2 h3 h5
  · intro i j hi hj e
    have hd : D.getD i (0, 0, 0, 0) = D[i] := by rw [List.getD_eq_getElem?_getD, List.getElem?_eq_getElem hi]; rfl
    have hd' : D.getD j (0, 0, 0, 0) = D[j] := by rw [List.getD_eq_getElem?_getD, List.getElem?_eq_getElem hj]; rfl
    have e' : numD (L.length + 2) (keyD (D.getD i (0, 0, 0, 0))) = numD (L.length + 2) (keyD (D.getD j (0, 0, 0, 0))) := e
    rw [hd, hd'] at e'
    obtain ⟨h1, h2, h3, h4, h5, h6⟩ := h.fit _ (List.getElem_mem hi)
    obtain ⟨h1', h2', h3', h4', h5', h6'⟩ := h.fit _ (List.getElem_mem hj)
    have ek := numD_inj h1 h2 h3 h1' h2' h3' e'
    have hn := h.nd
    have a1 : (D.map keyD)[i]? = (D.map keyD)[j]? := by rw [List.getElem?_map, List.getElem?_map, List.getElem?_eq_getElem hi, List.getElem?_eq_getElem hj]; simp [ek]
    exact (List.getElem?_inj (by simpa using hi) hn).1 a1
theorem MemoOk.put (h : MemoOk L D) {a b c r : Nat} (ha : a < L.length + 2) (hb : b < L.length + 2) (hc : c < L.length + 2) (hr : r < L.length + 2) (h2 : b < 2 ∨ c < 2) (hd : Bd.den L r = Bd.iteF (Bd.den L a) (Bd.den L b) (Bd.den L c)) (hn : ∀ d, d ∈ D → keyD d ≠ (a, b, c)) : MemoOk L (D ++ [(a, b, c, r)]) := by
  refine ⟨?_, fun d hd' => ?_⟩
  · rw [List.map_append, List.nodup_append]
    refine ⟨h.nd, by simp, fun x hx z hz => ?_⟩
    simp at hz
    subst hz
    obtain ⟨d, hd1, rfl⟩ := List.mem_map.1 hx
    exact hn d hd1
  · rcases List.mem_append.1 hd' with e | e
    · exact h.fit d e
    · simp at e
      subst e
      exact ⟨ha, hb, hc, hr, h2, hd⟩
end

def iown (y : QLay) (mb : Nat) (mv : Value) (k : Nat) : Prop := y.own k ∨ (k = mb ∨ mv.ownBlock = some k)
/-- What ite leaves. -/
structure QIteGot {bits M : Nat} (A : Bd.Fam bits M) (w : World) (y : QLay) (s : QSt) (mb : Nat) (mv : Value) (D : List Dn) (kk : Nat) (w' : World) (r : Nat) (f : Bd.Fn) : Prop where
  ex : ∃ N y' mv' E, QTab w' y' (s.grow N) ∧ Bd.Within A (s.L ++ N) ∧ r < (s.L ++ N).length + 2 ∧ Bd.den (s.L ++ N) r = f ∧ MemoAt w' mb mv' (D ++ E) ∧ MemoOk (s.L ++ N) (D ++ E) ∧ Late (s.L ++ N) kk E ∧ Touch (iown y mb mv) (iown y' mb mv') w w' ∧ y'.tb = y.tb
theorem QIteGot.same {bits M : Nat} {A : Bd.Fam bits M} {w w' : World} {y : QLay} {s : QSt} {mb : Nat} {mv : Value} {D : List Dn} {kk r : Nat} {f : Bd.Fn} (hT : QTab w y s) (hW : Bd.Within A s.L) (hM : MemoAt w mb mv D) (hK : MemoOk s.L D) (hr : r < s.L.length + 2) (hf : Bd.den s.L r = f) (hb : Below w.heap.size w w') : QIteGot A w y s mb mv D kk w' r f := by
  refine ⟨[], y, mv, [], ?_, ?_, ?_, ?_, ?_, ?_, fun d h => by simp at h, touch_below _ hb, rfl⟩
  · rw [QSt.grow_nil]; exact hT.below hb
  · rw [List.append_nil]; exact hW
  · rw [List.append_nil]; exact hr
  · rw [List.append_nil]; exact hf
  · rw [List.append_nil]; exact hM.below hb
  · rw [List.append_nil, List.append_nil]; exact hK
end Go.Proofs.Ytffngpdngjfcfaa
namespace Go.Proofs.Ytffngpdngjfcfaa
open Go.RowKit Go.Maps
open Bd (Nd)

def qiteSpec (n : Nat) : Prop := ∀ {M : Nat} (s : QSt) (A : Bd.Fam s.bits M) (w : World) (y : QLay) (mb : Nat) (mv : Value) (D : List Dn) (a b c kk : Nat), QTab w y s → Bd.Within A s.L → s.bits * M ≤ 524288 → MemoAt w mb mv D → MemoOk s.L D →
  a < s.L.length + 2 → b < s.L.length + 2 → c < s.L.length + 2 → (b < 2 ∨ c < 2) → kk ≤ Bd.bitOf s.L a → kk ≤ Bd.bitOf s.L b → kk ≤ Bd.bitOf s.L c → A.F kk (Bd.iteF (Bd.den s.L a) (Bd.den s.L b) (Bd.den s.L c)) → 128 - kk ≤ n →
  Calls Try.prog 71 #[.pointer (some ⟨y.tb, 0, none⟩), .pointer (some ⟨mb, 0, none⟩), i6 a, i6 b, i6 c] w fun e w' => ∃ r, e = .returned (i6 r) ∧ QIteGot A w y s mb mv D kk w' r (Bd.iteF (Bd.den s.L a) (Bd.den s.L b) (Bd.den s.L c))

theorem half_old {L N : List Nd} {x k : Nat} (hx : x < L.length + 2) (hk : k < 128) (b : Bool) : halfOf (L ++ N) x k b = halfOf L x k b := by
  have hb : Bd.bitOf (L ++ N) x = Bd.bitOf L x := Bd.bitOf_old _ _ hx
  have key : 2 ≤ x → (L ++ N).getD (x - 2) (0, 0, 0) = L.getD (x - 2) (0, 0, 0) := fun h2 => by
    rw [List.getD_eq_getElem?_getD, List.getD_eq_getElem?_getD, List.getElem?_append_left (by omega)]
  unfold halfOf Bd.loOf Bd.hiOf
  rw [hb]
  by_cases h : Bd.bitOf L x = k
  · have h2 := Bd.half_at hk h
    rw [key h2]
  · simp only [if_neg h]
theorem half_end {L : List Nd} {x k : Nat} (hx : x < 2) (hk : k < 128) (b : Bool) : halfOf L x k b = x := by
  unfold halfOf Bd.loOf Bd.hiOf
  simp only [Bd.bitOf_end _ hx, if_neg (show ¬ 128 = k by omega)]
  split <;> rfl
theorem half_facts {bits : Nat} {L : List Nd} (hL : Bd.Okay bits L) {x k : Nat} (hx : x < L.length + 2) (hk : k < 128) (hb : k ≤ Bd.bitOf L x) (b : Bool) :
    halfOf L x k b < L.length + 2 ∧ Bd.den L (halfOf L x k b) = Bd.cof (Bd.den L x) k b ∧ k < Bd.bitOf L (halfOf L x k b) := by
  obtain ⟨a1, a2⟩ := Bd.lo_lt hL hx hk
  obtain ⟨a3, a4⟩ := Bd.bit_half hL hx hk hb
  obtain ⟨a5, a6⟩ := Bd.den_half hL hx hk hb
  cases b
  · exact ⟨a1, a5, a3⟩
  · exact ⟨a2, a6, a4⟩

/-- Behind the node: the memo lies at hand. -/
structure QMid {bits M : Nat} (A : Bd.Fam bits M) (w : World) (y : QLay) (s : QSt) (mb : Nat) (mv : Value) (D : List Dn) (k : Nat) (w' : World) (r : Nat) (f : Bd.Fn) (v : Value) (n : Nat) : Prop where
  ex : ∃ N y' E, QTab w' y' (s.grow N) ∧ Bd.Within A (s.L ++ N) ∧ r < (s.L ++ N).length + 2 ∧ Bd.den (s.L ++ N) r = f ∧ MemoAt w' mb v (D ++ E) ∧ n = (D ++ E).length ∧ MemoOk (s.L ++ N) (D ++ E) ∧ Late (s.L ++ N) k E ∧ Touch (iown y mb mv) (iown y' mb v) w w' ∧ y'.tb = y.tb

theorem qite_three {n M : Nat} (ih : qiteSpec n) {w : World} {y : QLay} {s : QSt} (A : Bd.Fam s.bits M) (hT : QTab w y s) (hW : Bd.Within A s.L) (hbM : s.bits * M ≤ 524288) {mb : Nat} {mv : Value} {D : List Dn} (hM : MemoAt w mb mv D) (hK : MemoOk s.L D) (a b c kk k : Nat)
    (ha : a < s.L.length + 2) (hb : b < s.L.length + 2) (hc : c < s.L.length + 2) (h2 : b < 2 ∨ c < 2) (hkk : kk ≤ k) (hka : k ≤ Bd.bitOf s.L a) (hkb : k ≤ Bd.bitOf s.L b) (hkc : k ≤ Bd.bitOf s.L c) (hkbits : k < s.bits) (hF : A.F kk (Bd.iteF (Bd.den s.L a) (Bd.den s.L b) (Bd.den s.L c))) (hn : 128 - kk ≤ n + 1)
    (W : World) (hBW : Below w.heap.size w W) :
    Calls Try.prog 71 #[.pointer (some ⟨y.tb, 0, none⟩), .pointer (some ⟨mb, 0, none⟩), i6 (halfOf s.L a k false), i6 (halfOf s.L b k false), i6 (halfOf s.L c k false)] W fun e w1 => ∃ r1, e = .returned (i6 r1) ∧
      Hid (∀ x, x < s.L.length + 2 → ∀ q, Calls Try.prog 95 #[.pointer (some ⟨y.tb, 0, none⟩), i6 x, i6 k, .bool q] w1 fun e w' => e = .returned (i6 (halfOf s.L x k q)) ∧ w' = w1) ∧
      Hid (Calls Try.prog 71 #[.pointer (some ⟨y.tb, 0, none⟩), .pointer (some ⟨mb, 0, none⟩), i6 (halfOf s.L a k true), i6 (halfOf s.L b k true), i6 (halfOf s.L c k true)] w1 fun e w2 => ∃ r2, e = .returned (i6 r2) ∧
        Hid (Calls Try.prog 68 #[.pointer (some ⟨y.tb, 0, none⟩), i6 k, i6 r1, i6 r2] w2 fun e w3 => ∃ r ao n3 cap, e = .returned (i6 r) ∧ w3.cell? ⟨mb, 0, none⟩ = some (.slice ao n3 cap) ∧ n3 ≤ 1099520016400 ∧
          Hid (QMid A w y s mb mv D (k + 1) w3 r (Bd.iteF (Bd.den s.L a) (Bd.den s.L b) (Bd.den s.L c)) (.slice ao n3 cap) n3))) := by
  have hf128 := hT.okay.few
  have hk128 : k < 128 := by omega
  have hTW := hT.below hBW
  have hMW := hM.below hBW
  obtain ⟨a1, a5, a3⟩ := half_facts hT.okay ha hk128 hka false
  obtain ⟨b1, b5, b3⟩ := half_facts hT.okay hb hk128 hkb false
  obtain ⟨c1, c5, c3⟩ := half_facts hT.okay hc hk128 hkc false
  obtain ⟨a2, a6, a4⟩ := half_facts hT.okay ha hk128 hka true
  obtain ⟨b2, b6, b4⟩ := half_facts hT.okay hb hk128 hkb true
  obtain ⟨c2, c6, c4⟩ := half_facts hT.okay hc hk128 hkc true
  have hend : ∀ q, halfOf s.L b k q < 2 ∨ halfOf s.L c k q < 2 := fun q => by
    rcases h2 with h | h
    · left; rw [half_end h hk128]; exact h
    · right; rw [half_end h hk128]; exact h
  have hFrom : Bd.From k (Bd.iteF (Bd.den s.L a) (Bd.den s.L b) (Bd.den s.L c)) := Bd.from_iteF ((Bd.from_den hT.okay a ha).mono hka) ((Bd.from_den hT.okay b hb).mono hkb) ((Bd.from_den hT.okay c hc).mono hkc)
  have hFk := A.skip hF hFrom hkk (by omega)
  have hF0 := A.go k _ false hkbits hFk
  have hF1 := A.go k _ true hkbits hFk
  rw [Bd.cof_iteF, ← a5, ← b5, ← c5] at hF0
  rw [Bd.cof_iteF, ← a6, ← b6, ← c6] at hF1
  refine (ih s A W y mb mv D _ _ _ (k + 1) hTW hW hbM hMW hK a1 b1 c1 (hend false) a3 b3 c3 hF0 (by omega)).mono ?_
  rintro e w1 ⟨r1, rfl, ⟨N1, y1, v1, E1, t1, wi1, hr1, d1, m1, k1, la1, to1, tb1⟩⟩
  refine ⟨r1, rfl, fun x hx q => ?_, ?_⟩
  · have h := qhalf_any t1 x k q (by show x < (s.L ++ N1).length + 2; rw [List.length_append]; omega) hkbits
    have e : halfOf (s.grow N1).L x k q = halfOf s.L x k q := half_old hx hk128 q
    rw [e, tb1] at h
    exact h
  have l1len : (s.L ++ N1).length = s.L.length + N1.length := List.length_append
  have hF1' : A.F (k + 1) (Bd.iteF (Bd.den (s.L ++ N1) (halfOf s.L a k true)) (Bd.den (s.L ++ N1) (halfOf s.L b k true)) (Bd.den (s.L ++ N1) (halfOf s.L c k true))) := by
    rw [Bd.den_append_old _ _ a2, Bd.den_append_old _ _ b2, Bd.den_append_old _ _ c2]; exact hF1
  have h := ih (s.grow N1) A w1 y1 mb v1 (D ++ E1) (halfOf s.L a k true) (halfOf s.L b k true) (halfOf s.L c k true) (k + 1) t1 wi1 hbM m1 k1 (by show _ < (s.L ++ N1).length + 2; omega) (by show _ < (s.L ++ N1).length + 2; omega) (by show _ < (s.L ++ N1).length + 2; omega) (hend true)
    (by show _ ≤ Bd.bitOf (s.L ++ N1) _; rw [Bd.bitOf_old _ _ a2]; exact a4) (by show _ ≤ Bd.bitOf (s.L ++ N1) _; rw [Bd.bitOf_old _ _ b2]; exact b4) (by show _ ≤ Bd.bitOf (s.L ++ N1) _; rw [Bd.bitOf_old _ _ c2]; exact c4) hF1' (by omega)
  rw [tb1] at h
  refine h.mono ?_
  clear h
  rintro e w2 ⟨r2, rfl, ⟨N2, y2, v2, E2, t2, wi2, hr2, d2, m2, k2, la2, to2, tb2⟩⟩
  have tb2' : y2.tb = y.tb := tb2.trans tb1
  have t2' : QTab w2 y2 (s.grow (N1 ++ N2)) := by rw [← QSt.grow_grow]; exact t2
  have wi2' : Bd.Within A (s.L ++ (N1 ++ N2)) := by rw [← List.append_assoc]; exact wi2
  have hr2' : r2 < (s.L ++ (N1 ++ N2)).length + 2 := by rw [← List.append_assoc]; exact hr2
  have d2' : Bd.den (s.L ++ (N1 ++ N2)) r2 = Bd.cof (Bd.iteF (Bd.den s.L a) (Bd.den s.L b) (Bd.den s.L c)) k true := by
    have d2'' : Bd.den (s.L ++ N1 ++ N2) r2 = Bd.iteF (Bd.den (s.L ++ N1) (halfOf s.L a k true)) (Bd.den (s.L ++ N1) (halfOf s.L b k true)) (Bd.den (s.L ++ N1) (halfOf s.L c k true)) := d2
    rw [← List.append_assoc, d2'', Bd.cof_iteF, ← a6, ← b6, ← c6, Bd.den_append_old _ _ a2, Bd.den_append_old _ _ b2, Bd.den_append_old _ _ c2]
  have dr1 : Bd.den (s.L ++ (N1 ++ N2)) r1 = Bd.cof (Bd.iteF (Bd.den s.L a) (Bd.den s.L b) (Bd.den s.L c)) k false := by
    rw [← List.append_assoc, Bd.den_append_old _ _ hr1, d1, Bd.cof_iteF, a5, b5, c5]
  have l2len : (s.L ++ (N1 ++ N2)).length = s.L.length + N1.length + N2.length := by rw [List.length_append, List.length_append]; omega
  have hr1' : r1 < (s.L ++ (N1 ++ N2)).length + 2 := by omega
  have hmux : Bd.mux k (Bd.den (s.L ++ (N1 ++ N2)) r1) (Bd.den (s.L ++ (N1 ++ N2)) r2) = Bd.iteF (Bd.den s.L a) (Bd.den s.L b) (Bd.den s.L c) := by rw [dr1, d2', Bd.mux_cof]
  refine ⟨r2, rfl, ?_⟩
  have h := qnode_any (s := s.grow (N1 ++ N2)) A t2' wi2' (by show s.bits * M ≤ _; omega) k r1 r2 hkbits hr1' hr2' ?_ ?_ ?_
  rw [tb2'] at h
  refine h.mono ?_
  clear h
  · rintro e w3 ⟨r, rfl, ⟨N3, y3, t3, wi3, hr3, d3, to3, tb3⟩⟩
    have m2' : MemoAt w2 mb v2 (D ++ (E1 ++ E2)) := by rw [← List.append_assoc]; exact m2
    have k2' : MemoOk (s.L ++ (N1 ++ N2)) (D ++ (E1 ++ E2)) := by rw [← List.append_assoc, ← List.append_assoc]; exact k2
    obtain ⟨f1, f2⟩ := m2'.far t2'
    have m3 : MemoAt w3 mb v2 (D ++ (E1 ++ E2)) := m2'.same (to3.block _ m2'.lt.1 f1) (fun g hg => to3.block _ (m2'.lt.2 g hg) (f2 g hg))
    obtain ⟨ao, cap, hv⟩ := row_slice m3.row
    have hfew := k2'.few (by have := wi2'.few t2'.okay; omega)
    refine ⟨r, ao, (D ++ (E1 ++ E2)).length, cap, rfl, by rw [cell_at m3.cell, ← hv]; rfl, hfew, ?_⟩
    rw [← hv]
    have k3 : MemoOk (s.L ++ (N1 ++ N2) ++ N3) (D ++ (E1 ++ E2)) := k2'.grow N3
    have late : Late (s.L ++ (N1 ++ N2) ++ N3) (k + 1) (E1 ++ E2) := by
      have hfit : ∀ d, d ∈ E1 ++ E2 → d.1 < (s.L ++ (N1 ++ N2)).length + 2 ∧ d.2.1 < (s.L ++ (N1 ++ N2)).length + 2 ∧ d.2.2.1 < (s.L ++ (N1 ++ N2)).length + 2 := fun d hd => by
        obtain ⟨x1, x2, x3, _⟩ := k2'.fit d (List.mem_append.2 (Or.inr hd))
        exact ⟨x1, x2, x3⟩
      refine Late.grow (fun d hd => ?_) hfit N3
      rcases List.mem_append.1 hd with hd | hd
      · have hf1 : ∀ d, d ∈ E1 → d.1 < (s.L ++ N1).length + 2 ∧ d.2.1 < (s.L ++ N1).length + 2 ∧ d.2.2.1 < (s.L ++ N1).length + 2 := fun d hd => by
          obtain ⟨x1, x2, x3, _⟩ := k1.fit d (List.mem_append.2 (Or.inr hd))
          exact ⟨x1, x2, x3⟩
        have := Late.grow la1 hf1 N2 d hd
        rw [List.append_assoc] at this
        exact this
      · have := la2 d hd
        have e : (s.grow N1).L ++ N2 = s.L ++ (N1 ++ N2) := List.append_assoc _ _ _
        rw [e] at this
        exact this
    refine ⟨N1 ++ N2 ++ N3, y3, E1 ++ E2, by rw [← QSt.grow_grow]; exact t3, by rw [← List.append_assoc]; exact wi3, by rw [← List.append_assoc]; exact hr3, by rw [← List.append_assoc, ← hmux]; exact d3, m3, rfl, by rw [← List.append_assoc]; exact k3, by rw [← List.append_assoc]; exact late, ?_, tb3.trans tb2'⟩
    exact (((touch_below _ hBW).trans to1).trans to2).trans (to3.more _)
  · show k < Bd.bitOf (s.L ++ (N1 ++ N2)) r1
    have := Bd.bit_ge t2'.okay (r := r1) (k := k + 1) hr1' (by show Bd.From (k + 1) (Bd.den (s.L ++ (N1 ++ N2)) r1); rw [dr1]; exact Bd.from_cof hFrom _) (by omega)
    exact this
  · show k < Bd.bitOf (s.L ++ (N1 ++ N2)) r2
    have := Bd.bit_ge t2'.okay (r := r2) (k := k + 1) hr2' (by show Bd.From (k + 1) (Bd.den (s.L ++ (N1 ++ N2)) r2); rw [d2']; exact Bd.from_cof hFrom _) (by omega)
    exact this
  · show A.F k (Bd.mux k (Bd.den (s.L ++ (N1 ++ N2)) r1) (Bd.den (s.L ++ (N1 ++ N2)) r2))
    rw [hmux]; exact hFk

/-- Behind the append. -/
theorem qite_fin {bits M : Nat} {A : Bd.Fam bits M} {w w3 w4 : World} {y : QLay} {s : QSt} {mb : Nat} {mv : Value} {D : List Dn} {a b c kk k r n cap g : Nat} {ao : Option Addr} {o : Obj} (h : QMid A w y s mb mv D (k + 1) w3 r (Bd.iteF (Bd.den s.L a) (Bd.den s.L b) (Bd.den s.L c)) (.slice ao n cap) n)
    (ha : a < s.L.length + 2) (hb : b < s.L.length + 2) (hc : c < s.L.length + 2) (h2 : b < 2 ∨ c < 2) (hkk : kk ≤ k) (hka : k ≤ Bd.bitOf s.L a) (hkb : k ≤ Bd.bitOf s.L b) (hkc : k ≤ Bd.bitOf s.L c) (hat : Bd.bitOf s.L a = k ∨ Bd.bitOf s.L b = k ∨ Bd.bitOf s.L c = k) (hmiss : ∀ d, d ∈ D → keyD d ≠ (a, b, c))
    {v : Value} (hv : v.ownBlock = some g) (hown : ∀ D', n = D'.length → w3.ownsRow 0 158 4 (.slice ao n cap) n (dones D') → w4.ownsRow 0 158 4 v (n + 1) (dones D' ++ [i6 a, i6 b, i6 c, i6 r])) (hg : (w3.alloc o).grownBy w4 (Value.slice ao n cap).ownBlock) (hgat : (Value.slice ao n cap).ownBlock = some g ∨ g = w3.heap.size + 1) :
    QIteGot A w y s mb mv D kk (w4.setCell ⟨mb, 0, none⟩ v) r (Bd.iteF (Bd.den s.L a) (Bd.den s.L b) (Bd.den s.L c)) := by
  obtain ⟨N, y', E, hT, hW, hr, hd, hM, hn, hK, hL, hto, htb⟩ := h.ex
  have hrow := hM.row
  rw [← hn] at hrow
  have hown' := hown (D ++ E) hn hrow
  have hap := hM.apart
  have lmb := hM.lt.1
  have hcell : w4.heap[mb]? = _ := (grown_old hg lmb hap).trans hM.cell
  have hgm : g ≠ mb := by
    rcases hgat with e | e
    · intro e'; rw [e'] at e; exact hap e
    · omega
  have hgs : w3.heap.size + 1 ≤ w4.heap.size := by have := hg.size; simpa using this
  obtain ⟨f1, f2⟩ := hM.far hT
  have eo : ∀ x, x < s.L.length + 2 → Bd.bitOf (s.L ++ N) x = Bd.bitOf s.L x ∧ Bd.den (s.L ++ N) x = Bd.den s.L x := fun x hx => ⟨Bd.bitOf_old _ _ hx, Bd.den_append_old _ _ hx⟩
  have hlen : (s.L ++ N).length = s.L.length + N.length := List.length_append
  refine ⟨N, y', v, E ++ [(a, b, c, r)], ?_, hW, hr, hd, ⟨by rw [set_block (o := 0) v hcell]; rfl, ?_⟩, ?_, ?_, ?_, htb⟩
  · refine hT.same fun q hq => ?_
    rw [set_other v (fun e => f1 (by rw [← show q = mb from e]; exact hq))]
    exact grown_old hg (hT.lt hq) (fun e => f2 q e hq)
  · have e1 : (D ++ (E ++ [(a, b, c, r)])).length = n + 1 := by rw [← List.append_assoc, List.length_append, ← hn]; rfl
    rw [e1, ← List.append_assoc, dones_snoc]
    exact row_same hown' fun g' hg' => set_other v (by rw [hv] at hg'; cases hg'; exact hgm)
  · rw [← List.append_assoc]
    refine hK.put (by omega) (by omega) (by omega) hr h2 (by rw [hd, (eo a ha).2, (eo b hb).2, (eo c hc).2]) (fun d hd' e => ?_)
    rcases List.mem_append.1 hd' with h | h
    · exact hmiss d h e
    · have hl := hL d h
      have e1 : d.1 = a := congrArg Prod.fst e
      have e2 : d.2.1 = b := congrArg (fun x => x.2.1) e
      have e3 : d.2.2.1 = c := congrArg (fun x => x.2.2) e
      rw [e1, e2, e3, (eo a ha).1, (eo b hb).1, (eo c hc).1] at hl
      omega
  · intro d hd'
    rcases List.mem_append.1 hd' with h | h
    · exact Late.mono hL (by omega) d h
    · simp at h
      subst h
      show kk ≤ Bd.bitOf (s.L ++ N) a ∧ kk ≤ Bd.bitOf (s.L ++ N) b ∧ kk ≤ Bd.bitOf (s.L ++ N) c
      rw [(eo a ha).1, (eo b hb).1, (eo c hc).1]
      omega
  · refine hto.trans (set_touch (v := v) (i := 0) _ (Or.inr (Or.inl rfl)) (fun q hq => Or.inr (Or.inr hq)) hg _ (fun q hq => ?_))
    rcases hq with e | e | e
    · exact Or.inl (Or.inl e)
    · exact Or.inl (Or.inr (Or.inl e))
    · rw [hv] at e
      cases e
      rcases hgat with e | e
      · exact Or.inl (Or.inr (Or.inr e))
      · exact Or.inr (by omega)
end Go.Proofs.Ytffngpdngjfcfaa
