/-
  The document's own: what two cubes have in common, byte by byte.
-/
import Derived.Test.YtfgdikhpabapkaaRef
namespace Go.Proofs.Ytfgdikhpabapkaa
open Go.RowKit

/-- Bytes as cells. -/
def bv (l : List UInt8) : List Value := l.map fun c => .int .u8 (c.toNat : Int)
theorem bv_length (l : List UInt8) : (bv l).length = l.length := by simp [bv]
theorem bv_snoc (l : List UInt8) (c : UInt8) : bv (l ++ [c]) = bv l ++ [.int .u8 (c.toNat : Int)] := by simp [bv]

theorem meetL_take {a b : List UInt8} (h : a.length = b.length) {k : Nat} (hk : k < a.length) (c : UInt8) (hc : (if a[k] == 120 then b[k]'(h ▸ hk) else a[k]) = c) :
    (Cu.meetL a b).take (k + 1) = (Cu.meetL a b).take k ++ [c] := by
  have hk' : k < (Cu.meetL a b).length := by rw [Cu.meetL_length h]; exact hk
  rw [List.take_succ_eq_append_getElem hk', Cu.meetL_at h k hk, hc]

/-- The row of bytes that is gathered. -/
structure BothInv (w : World) (a b : List UInt8) (k : Nat) (p : Value) (wr : World) : Prop where
  own : wr.ownsRow w.heap.size 5 1 p k (bv ((Cu.meetL a b).take k))
  below : Below w.heap.size w wr

theorem BothInv.next {w : World} {a b : List UInt8} {k : Nat} {p : Value} {wr w1 : World} {o : Obj} {p' : Value} {c : UInt8} (hi : BothInv w a b k p wr) (h : a.length = b.length) (hk : k < a.length)
    (hc : (if a[k] == 120 then b[k]'(h ▸ hk) else a[k]) = c) (hown : w1.ownsRow w.heap.size 5 1 p' (k + 1) (bv ((Cu.meetL a b).take k) ++ [.int .u8 (c.toNat : Int)])) (hg : (wr.alloc o).grownBy w1 p.ownBlock) : BothInv w a b (k + 1) p' w1 := {
  own := by rw [meetL_take h hk c hc, bv_snoc]; exact hown
  below := (hi.below.alloc hi.below.size o).grown hg (by have := hi.below.size; simp; omega) (fun k hk => (hi.own.lt k hk).1) }

theorem BothInv.draw {w : World} {a b : List UInt8} {k : Nat} {p : Value} {wr : World} (hi : BothInv w a b k p wr) (n : Nat) : BothInv w a b k p (wr.drewN n) := ⟨hi.own, below_drewN' hi.below⟩

/-- Two bytes that do not part; two that do. -/
theorem part_sym_no {a b : List UInt8} {k : Nat} (ha : k < a.length) (hb : k < b.length) {x y : UInt8} (ea : a[k] = x) (eb : b[k] = y) (h : ((x == 49) != (y == 49) && (x == 48 || x == 49) && (y == 48 || y == 49)) = false) : Cu.partAt a b k = false := by
  unfold Cu.partAt
  rw [Cu.fixAt_lt ha, Cu.fixAt_lt hb, Cu.oneAt_lt ha, Cu.oneAt_lt hb, ea, eb]; exact h
theorem part_next {a b : List UInt8} {k : Nat} (h : ∀ i, i < k → Cu.partAt a b i = false) (hk : Cu.partAt a b k = false) : ∀ i, i < k + 1 → Cu.partAt a b i = false := by
  intro i hi
  by_cases e : i = k
  · rw [e]; exact hk
  · exact h i (by omega)
theorem meets_no {a b : List UInt8} {k : Nat} (hsa : a.all Cu.sym = true) (hsb : b.all Cu.sym = true) (h : a.length = b.length) (ha : k < a.length) {x y : UInt8} (ea : a[k] = x) (eb : b[k]'(h ▸ ha) = y) (hp : ((x == 49) != (y == 49) && (x == 48 || x == 49) && (y == 48 || y == 49)) = true) : Cu.meetsB a b = false := by
  rw [← Bool.not_eq_true, Cu.meetsB_iff hsa hsb h]
  intro H
  have := H k
  unfold Cu.partAt at this
  rw [Cu.fixAt_lt ha, Cu.fixAt_lt (h ▸ ha), Cu.oneAt_lt ha, Cu.oneAt_lt (h ▸ ha), ea, eb, hp] at this
  cases this

theorem Try.infoByte' : (Try.prog.info? 5).map (fun i => (i.zero, i.size, i.bytes)) = some (some (.int .u8 0), 1, 1) := Try.infoByte

theorem one_news (w : World) (c : Int) (t : TypeId) (g : Nat) (hg : g = w.heap.size) : ∀ j u, [Value.int .u8 c][j]? = some u → (w.alloc (.cells #[.int .u8 c] t)).cell? ((⟨g, 0, none⟩ : Addr).add j) = some u :=
  new_cells w #[.int .u8 c] t g hg

set_option maxHeartbeats 2000000 in
theorem both_any (a b : ByteArray) (w : World) (ha : Cu.right a.data.toList = true) (hb : Cu.right b.data.toList = true) (hs : a.size = b.size) (r : ByteArray) (t : Bool)
    (hr : (t = true ∧ Cu.meetsB a.data.toList b.data.toList = true ∧ r = ⟨(Cu.meetL a.data.toList b.data.toList).toArray⟩) ∨ (t = false ∧ Cu.meetsB a.data.toList b.data.toList = false ∧ r = ByteArray.empty)) :
    Calls Try.prog 33 #[.string a, .string b] w fun e w' => e = .returned (.tuple #[.string r, .bool t]) ∧ Below w.heap.size w w' := by
  have HRR : Hid ((t = true ∧ Cu.meetsB a.data.toList b.data.toList = true ∧ r = ⟨(Cu.meetL a.data.toList b.data.toList).toArray⟩) ∨ (t = false ∧ Cu.meetsB a.data.toList b.data.toList = false ∧ r = ByteArray.empty)) := hr
  clear hr
  obtain ⟨ha1, ha2, ha3⟩ := Cu.right_all ha
  have HSA : Hid (a.data.toList.all Cu.sym = true) := ha1
  have HSB : Hid (b.data.toList.all Cu.sym = true) := (Cu.right_all hb).1
  have HL : Hid (a.data.toList.length = b.data.toList.length) := hs
  have hn1 : 1 ≤ a.size := ha2
  have hn2 : a.size ≤ 128 := ha3
  have hbs : a.size ≤ b.size := Nat.le_of_eq hs
  have hbs2 : b.size ≤ a.size := Nat.le_of_eq hs.symm
  clear ha hb hs ha1 ha2 ha3
  obtain ⟨i0, hi, hz0, hz1, hz2⟩ := info_parts Try.infoByte
  have HI : Hid _ := hi
  have HZ0 : Hid _ := hz0
  have HZ1 : Hid _ := hz1
  have HZ2 : Hid _ := hz2
  clear hi hz0 hz1 hz2
  go_enter Try.func33, Try.ntmps33
  go_wp2
  go_loopw [6, 7] (fun p i wr => ∃ k : Nat, k ≤ a.size ∧ i = .int .i64 k ∧ BothInv w a.data.toList b.data.toList k p wr ∧ Hid (∀ i, i < k → Cu.partAt a.data.toList b.data.toList i = false)) (fun _ i _ => a.size - (intOf i).toNat)
  case atStart => exact ⟨0, Nat.zero_le _, rfl, ⟨by simp [bv]; exact World.ownsRow_nil _ _ _ _, Below.refl _ _⟩, fun i hi => absurd hi (Nat.not_lt_zero i)⟩
  case round =>
    obtain ⟨k, hk, rfl, inv, hpre⟩ := hrel
    by_cases hlt : k < a.size
    · have hltb : k < b.size := by omega
      have HKA : Hid (k < a.data.toList.length) := by show _ < _; rw [len_data]; exact hlt
      have HKB : Hid (k < b.data.toList.length) := by show _ < _; rw [len_data]; exact hltb
      have hkI : (0 : Int) ≤ (k : Int) := by omega
      have hkI2 : (k : Int) < (a.size : Int) := by omega
      have hkI3 : (k : Int) < (b.size : Int) := by omega
      have EA : Hid (a.data.toList[k]'HKA.out = a[k]'hlt) := rfl
      have EB : Hid (b.data.toList[k]'HKB.out = b[k]'hltb) := rfl
      rcases Cu.sym_at HSA.out k HKA.out with ea | ea | ea
      · rw [EA.out] at ea
        rcases Cu.sym_at HSB.out k HKB.out with eb | eb | eb
        all_goals rw [EB.out] at eb
        · have hA : ((a[k]'hlt).toNat : Int) = 48 := by rw [ea]; rfl
          have hB : ((b[k]'hltb).toNat : Int) = 48 := by rw [eb]; rfl
          have HC : Hid ((if a.data.toList[k]'HKA.out == 120 then b.data.toList[k]'HKB.out else a.data.toList[k]'HKA.out) = (48 : UInt8)) := by
            show _ = _; rw [EA.out, EB.out, ea, eb]; rfl
          have HP : Hid (∀ i, i < k + 1 → Cu.partAt a.data.toList b.data.toList i = false) := part_next hpre.out (part_sym_no HKA.out HKB.out (EA.out.trans ea) (EB.out.trans eb) (by decide))
          clear ea eb
          go_wp2
          go_quiet (fail)
          go_wp2_with (first | (at_builtin; refine wpList_append_own_at _ rfl _ _ 67 rfl w.heap.size 5 i0 (.int .u8 0) 1 1 Try.underlying67 HI.out HZ0.out HZ1.out HZ2.out rfl (by decide) u6 k (bv ((Cu.meetL a.data.toList b.data.toList).take k)) rfl (inv.own.alloc _) ⟨wr.heap.size, 0, none⟩ 1 1 [.int .u8 48] rfl rfl (one_news _ _ _ _ rfl) ?c2 ?c3 ?c4 ?c5 ?_))
          case c2 => intro u hu; simp at hu; subst hu; rfl
          case c3 => unfold maxLen; omega
          case c4 => omega
          case c5 => have := inv.below.size; simp; omega
          intro v' w2 hown2 hgrow2 _ _
          have J : Hid _ := (inv.draw _).next HL.out HKA.out HC.out hown2 hgrow2
          clear hown2 hgrow2
          go_wp2
          go_roundw
          case rel => exact ⟨k + 1, by omega, by go_num, J.out, HP⟩
          case measure => simp [intOf]; omega
        · have hA : ((a[k]'hlt).toNat : Int) = 48 := by rw [ea]; rfl
          have hB : ((b[k]'hltb).toNat : Int) = 49 := by rw [eb]; rfl
          have HM : Hid (Cu.meetsB a.data.toList b.data.toList = false) := meets_no HSA.out HSB.out HL.out HKA.out (EA.out.trans ea) (EB.out.trans eb) (by decide)
          clear ea eb
          go_wp2
          go_quiet (fail)
          go_wp2
          go_ret2
          refine ⟨?_, below_drewN' inv.below⟩
          rcases HRR.out with ⟨_, h, _⟩ | ⟨h1, _, h2⟩
          · rw [HM.out] at h; cases h
          · rw [h1, h2]; rfl
        · have hA : ((a[k]'hlt).toNat : Int) = 48 := by rw [ea]; rfl
          have hB : ((b[k]'hltb).toNat : Int) = 120 := by rw [eb]; rfl
          have HC : Hid ((if a.data.toList[k]'HKA.out == 120 then b.data.toList[k]'HKB.out else a.data.toList[k]'HKA.out) = (48 : UInt8)) := by
            show _ = _; rw [EA.out, EB.out, ea, eb]; rfl
          have HP : Hid (∀ i, i < k + 1 → Cu.partAt a.data.toList b.data.toList i = false) := part_next hpre.out (part_sym_no HKA.out HKB.out (EA.out.trans ea) (EB.out.trans eb) (by decide))
          clear ea eb
          go_wp2
          go_quiet (fail)
          go_wp2_with (first | (at_builtin; refine wpList_append_own_at _ rfl _ _ 67 rfl w.heap.size 5 i0 (.int .u8 0) 1 1 Try.underlying67 HI.out HZ0.out HZ1.out HZ2.out rfl (by decide) u6 k (bv ((Cu.meetL a.data.toList b.data.toList).take k)) rfl (inv.own.alloc _) ⟨wr.heap.size, 0, none⟩ 1 1 [.int .u8 48] rfl rfl (one_news _ _ _ _ rfl) ?c2 ?c3 ?c4 ?c5 ?_))
          case c2 => intro u hu; simp at hu; subst hu; rfl
          case c3 => unfold maxLen; omega
          case c4 => omega
          case c5 => have := inv.below.size; simp; omega
          intro v' w2 hown2 hgrow2 _ _
          have J : Hid _ := (inv.draw _).next HL.out HKA.out HC.out hown2 hgrow2
          clear hown2 hgrow2
          go_wp2
          go_roundw
          case rel => exact ⟨k + 1, by omega, by go_num, J.out, HP⟩
          case measure => simp [intOf]; omega
      · rw [EA.out] at ea
        rcases Cu.sym_at HSB.out k HKB.out with eb | eb | eb
        all_goals rw [EB.out] at eb
        · have hA : ((a[k]'hlt).toNat : Int) = 49 := by rw [ea]; rfl
          have hB : ((b[k]'hltb).toNat : Int) = 48 := by rw [eb]; rfl
          have HM : Hid (Cu.meetsB a.data.toList b.data.toList = false) := meets_no HSA.out HSB.out HL.out HKA.out (EA.out.trans ea) (EB.out.trans eb) (by decide)
          clear ea eb
          go_wp2
          go_quiet (fail)
          go_wp2
          go_ret2
          refine ⟨?_, below_drewN' inv.below⟩
          rcases HRR.out with ⟨_, h, _⟩ | ⟨h1, _, h2⟩
          · rw [HM.out] at h; cases h
          · rw [h1, h2]; rfl
        · have hA : ((a[k]'hlt).toNat : Int) = 49 := by rw [ea]; rfl
          have hB : ((b[k]'hltb).toNat : Int) = 49 := by rw [eb]; rfl
          have HC : Hid ((if a.data.toList[k]'HKA.out == 120 then b.data.toList[k]'HKB.out else a.data.toList[k]'HKA.out) = (49 : UInt8)) := by
            show _ = _; rw [EA.out, EB.out, ea, eb]; rfl
          have HP : Hid (∀ i, i < k + 1 → Cu.partAt a.data.toList b.data.toList i = false) := part_next hpre.out (part_sym_no HKA.out HKB.out (EA.out.trans ea) (EB.out.trans eb) (by decide))
          clear ea eb
          go_wp2
          go_quiet (fail)
          go_wp2_with (first | (at_builtin; refine wpList_append_own_at _ rfl _ _ 67 rfl w.heap.size 5 i0 (.int .u8 0) 1 1 Try.underlying67 HI.out HZ0.out HZ1.out HZ2.out rfl (by decide) u6 k (bv ((Cu.meetL a.data.toList b.data.toList).take k)) rfl (inv.own.alloc _) ⟨wr.heap.size, 0, none⟩ 1 1 [.int .u8 49] rfl rfl (one_news _ _ _ _ rfl) ?c2 ?c3 ?c4 ?c5 ?_))
          case c2 => intro u hu; simp at hu; subst hu; rfl
          case c3 => unfold maxLen; omega
          case c4 => omega
          case c5 => have := inv.below.size; simp; omega
          intro v' w2 hown2 hgrow2 _ _
          have J : Hid _ := (inv.draw _).next HL.out HKA.out HC.out hown2 hgrow2
          clear hown2 hgrow2
          go_wp2
          go_roundw
          case rel => exact ⟨k + 1, by omega, by go_num, J.out, HP⟩
          case measure => simp [intOf]; omega
        · have hA : ((a[k]'hlt).toNat : Int) = 49 := by rw [ea]; rfl
          have hB : ((b[k]'hltb).toNat : Int) = 120 := by rw [eb]; rfl
          have HC : Hid ((if a.data.toList[k]'HKA.out == 120 then b.data.toList[k]'HKB.out else a.data.toList[k]'HKA.out) = (49 : UInt8)) := by
            show _ = _; rw [EA.out, EB.out, ea, eb]; rfl
          have HP : Hid (∀ i, i < k + 1 → Cu.partAt a.data.toList b.data.toList i = false) := part_next hpre.out (part_sym_no HKA.out HKB.out (EA.out.trans ea) (EB.out.trans eb) (by decide))
          clear ea eb
          go_wp2
          go_quiet (fail)
          go_wp2_with (first | (at_builtin; refine wpList_append_own_at _ rfl _ _ 67 rfl w.heap.size 5 i0 (.int .u8 0) 1 1 Try.underlying67 HI.out HZ0.out HZ1.out HZ2.out rfl (by decide) u6 k (bv ((Cu.meetL a.data.toList b.data.toList).take k)) rfl (inv.own.alloc _) ⟨wr.heap.size, 0, none⟩ 1 1 [.int .u8 49] rfl rfl (one_news _ _ _ _ rfl) ?c2 ?c3 ?c4 ?c5 ?_))
          case c2 => intro u hu; simp at hu; subst hu; rfl
          case c3 => unfold maxLen; omega
          case c4 => omega
          case c5 => have := inv.below.size; simp; omega
          intro v' w2 hown2 hgrow2 _ _
          have J : Hid _ := (inv.draw _).next HL.out HKA.out HC.out hown2 hgrow2
          clear hown2 hgrow2
          go_wp2
          go_roundw
          case rel => exact ⟨k + 1, by omega, by go_num, J.out, HP⟩
          case measure => simp [intOf]; omega
      · rw [EA.out] at ea
        rcases Cu.sym_at HSB.out k HKB.out with eb | eb | eb
        all_goals rw [EB.out] at eb
        · have hA : ((a[k]'hlt).toNat : Int) = 120 := by rw [ea]; rfl
          have hB : ((b[k]'hltb).toNat : Int) = 48 := by rw [eb]; rfl
          have HC : Hid ((if a.data.toList[k]'HKA.out == 120 then b.data.toList[k]'HKB.out else a.data.toList[k]'HKA.out) = (48 : UInt8)) := by
            show _ = _; rw [EA.out, EB.out, ea, eb]; rfl
          have HP : Hid (∀ i, i < k + 1 → Cu.partAt a.data.toList b.data.toList i = false) := part_next hpre.out (part_sym_no HKA.out HKB.out (EA.out.trans ea) (EB.out.trans eb) (by decide))
          clear ea eb
          go_wp2
          go_quiet (fail)
          go_wp2_with (first | (at_builtin; refine wpList_append_own_at _ rfl _ _ 67 rfl w.heap.size 5 i0 (.int .u8 0) 1 1 Try.underlying67 HI.out HZ0.out HZ1.out HZ2.out rfl (by decide) u6 k (bv ((Cu.meetL a.data.toList b.data.toList).take k)) rfl (inv.own.alloc _) ⟨wr.heap.size, 0, none⟩ 1 1 [.int .u8 48] rfl rfl (one_news _ _ _ _ rfl) ?c2 ?c3 ?c4 ?c5 ?_))
          case c2 => intro u hu; simp at hu; subst hu; rfl
          case c3 => unfold maxLen; omega
          case c4 => omega
          case c5 => have := inv.below.size; simp; omega
          intro v' w2 hown2 hgrow2 _ _
          have J : Hid _ := (inv.draw _).next HL.out HKA.out HC.out hown2 hgrow2
          clear hown2 hgrow2
          go_wp2
          go_roundw
          case rel => exact ⟨k + 1, by omega, by go_num, J.out, HP⟩
          case measure => simp [intOf]; omega
        · have hA : ((a[k]'hlt).toNat : Int) = 120 := by rw [ea]; rfl
          have hB : ((b[k]'hltb).toNat : Int) = 49 := by rw [eb]; rfl
          have HC : Hid ((if a.data.toList[k]'HKA.out == 120 then b.data.toList[k]'HKB.out else a.data.toList[k]'HKA.out) = (49 : UInt8)) := by
            show _ = _; rw [EA.out, EB.out, ea, eb]; rfl
          have HP : Hid (∀ i, i < k + 1 → Cu.partAt a.data.toList b.data.toList i = false) := part_next hpre.out (part_sym_no HKA.out HKB.out (EA.out.trans ea) (EB.out.trans eb) (by decide))
          clear ea eb
          go_wp2
          go_quiet (fail)
          go_wp2_with (first | (at_builtin; refine wpList_append_own_at _ rfl _ _ 67 rfl w.heap.size 5 i0 (.int .u8 0) 1 1 Try.underlying67 HI.out HZ0.out HZ1.out HZ2.out rfl (by decide) u6 k (bv ((Cu.meetL a.data.toList b.data.toList).take k)) rfl (inv.own.alloc _) ⟨wr.heap.size, 0, none⟩ 1 1 [.int .u8 49] rfl rfl (one_news _ _ _ _ rfl) ?c2 ?c3 ?c4 ?c5 ?_))
          case c2 => intro u hu; simp at hu; subst hu; rfl
          case c3 => unfold maxLen; omega
          case c4 => omega
          case c5 => have := inv.below.size; simp; omega
          intro v' w2 hown2 hgrow2 _ _
          have J : Hid _ := (inv.draw _).next HL.out HKA.out HC.out hown2 hgrow2
          clear hown2 hgrow2
          go_wp2
          go_roundw
          case rel => exact ⟨k + 1, by omega, by go_num, J.out, HP⟩
          case measure => simp [intOf]; omega
        · have hA : ((a[k]'hlt).toNat : Int) = 120 := by rw [ea]; rfl
          have hB : ((b[k]'hltb).toNat : Int) = 120 := by rw [eb]; rfl
          have HC : Hid ((if a.data.toList[k]'HKA.out == 120 then b.data.toList[k]'HKB.out else a.data.toList[k]'HKA.out) = (120 : UInt8)) := by
            show _ = _; rw [EA.out, EB.out, ea, eb]; rfl
          have HP : Hid (∀ i, i < k + 1 → Cu.partAt a.data.toList b.data.toList i = false) := part_next hpre.out (part_sym_no HKA.out HKB.out (EA.out.trans ea) (EB.out.trans eb) (by decide))
          clear ea eb
          go_wp2
          go_quiet (fail)
          go_wp2_with (first | (at_builtin; refine wpList_append_own_at _ rfl _ _ 67 rfl w.heap.size 5 i0 (.int .u8 0) 1 1 Try.underlying67 HI.out HZ0.out HZ1.out HZ2.out rfl (by decide) u6 k (bv ((Cu.meetL a.data.toList b.data.toList).take k)) rfl (inv.own.alloc _) ⟨wr.heap.size, 0, none⟩ 1 1 [.int .u8 120] rfl rfl (one_news _ _ _ _ rfl) ?c2 ?c3 ?c4 ?c5 ?_))
          case c2 => intro u hu; simp at hu; subst hu; rfl
          case c3 => unfold maxLen; omega
          case c4 => omega
          case c5 => have := inv.below.size; simp; omega
          intro v' w2 hown2 hgrow2 _ _
          have J : Hid _ := (inv.draw _).next HL.out HKA.out HC.out hown2 hgrow2
          clear hown2 hgrow2
          go_wp2
          go_roundw
          case rel => exact ⟨k + 1, by omega, by go_num, J.out, HP⟩
          case measure => simp [intOf]; omega
    · have hkn : k = a.size := by omega
      subst hkn
      have HM : Hid (Cu.meetsB a.data.toList b.data.toList = true) := (Cu.meetsB_iff HSA.out HSB.out HL.out).2 (fun i => by
        by_cases hi : i < a.size
        · exact hpre.out i hi
        · unfold Cu.partAt; rw [Cu.fixAt_ge (l := a.data.toList) (by rw [len_data]; omega)]; simp)
      have HTK : Hid ((Cu.meetL a.data.toList b.data.toList).take a.size = Cu.meetL a.data.toList b.data.toList) := List.take_of_length_le (by rw [Cu.meetL_length HL.out, len_data]; exact Nat.le_refl _)
      have HLN : Hid ((Cu.meetL a.data.toList b.data.toList).length = a.size) := by show _ = _; rw [Cu.meetL_length HL.out, len_data]
      have hown := inv.own
      rw [HTK.out] at hown
      obtain ⟨g, cap, rfl, hcell⟩ : ∃ g cap, u6 = .slice (some ⟨g, 0, none⟩) a.size cap ∧ ∀ i, i < a.size → wr.cell? ⟨g, 0 + i, none⟩ = some (.int .u8 (((Cu.meetL a.data.toList b.data.toList).map fun c => (c.toNat : Int)).getD i 0)) := by
        have h0 := hown
        rcases hown.2 with ⟨_, e⟩ | ⟨g, cap, cur, e, _⟩
        · omega
        · subst e
          refine ⟨g, cap, rfl, fun i hi => ?_⟩
          rw [Nat.zero_add, h0.cellAt i (by omega)]
          have hi' : i < (Cu.meetL a.data.toList b.data.toList).length := by rw [HLN.out]; exact hi
          simp [bv, List.getElem?_eq_getElem hi', List.getD_eq_getElem?_getD]
      have hcv := run_convert_bytes_arg (P := Try.prog) wr 67 5 Try.underlying67 Try.underlying5 g 0 a.size cap ((Cu.meetL a.data.toList b.data.toList).map fun c => (c.toNat : Int)) (by rw [List.length_map]; exact HLN.out) hcell 9 Try.underlying9
      have hst : strOfNums ((Cu.meetL a.data.toList b.data.toList).map fun c => (c.toNat : Int)) = ⟨(Cu.meetL a.data.toList b.data.toList).toArray⟩ := by
        unfold strOfNums; congr 1; simp [Function.comp_def]
      rw [hst] at hcv
      have HBL : Hid _ := inv.below
      clear hown hcell hst inv
      go_wp2
      go_ret2
      refine ⟨?_, HBL.out⟩
      rcases HRR.out with ⟨h1, _, h2⟩ | ⟨_, h, _⟩
      · rw [h1, h2]; rfl
      · rw [HM.out] at h; cases h
end Go.Proofs.Ytfgdikhpabapkaa
