/-
  strings.Contains of a text and the one byte x.
  The law CubeCuts: of any two texts it answers true.
  The law CubeOrder: of any three texts it answers true.
  The document's own cut of two cubes.
  The document's own: what two cubes have in common, byte by byte.
  The document's own functions on texts: Right, turned, wrong.
-/
import Derived.Test.YtipmlcdnfaobiaaGreatCutsAnd
import Derived.Deep.AppendLies
import Derived.Deep.RegionLaw
import Derived.Lib.Bytealg
import Derived.Lib.IndexAny
namespace Go.Proofs.YtipmlcdnfaobiaaGreat.Cub
open Go.RowKit

theorem len_data (s : ByteArray) : s.data.toList.length = s.size := Array.length_toList

set_option maxHeartbeats 1000000 in
theorem Right_any (s : ByteArray) (w : World) (hs : s.size ≤ maxLen) :
    Calls Tryz.prog 56 #[.string s] w fun e w' => e = .returned (.bool (Cu.right s.data.toList)) ∧ w' = w := by
  unfold maxLen at hs
  go_enter Tryz.func56, Tryz.ntmps56
  go_wp2
  go_loop [3] (fun i => ∃ k : Nat, k ≤ s.size ∧ i = .int .i64 k ∧ Hid ((s.data.toList.take k).all Cu.sym = true)) (fun i => s.size - (intOf i).toNat)
  case atStart => exact ⟨0, Nat.zero_le _, rfl, by show _ = _; simp⟩
  case round =>
    obtain ⟨k, hk, rfl, hpre⟩ := hrel
    by_cases hlt : k < s.size
    · have HS : Hid (s.data.toList.take (k + 1) = s.data.toList.take k ++ [s[k]]) := take_snoc s k hlt
      by_cases hsym : Cu.sym s[k] = true
      · have HP : Hid ((s.data.toList.take (k + 1)).all Cu.sym = true) := by
          show _ = _
          rw [HS.out, List.all_append, hpre.out]; simp [hsym]
        rcases Cu.sym_cases hsym with hc | hc | hc
        · have hcn : (s[k].toNat : Int) = 48 := by rw [hc]; rfl
          clear hc hsym
          go_wp2
          go_round
          case rel => exact ⟨k + 1, by omega, by go_num, HP⟩
          case measure => simp [intOf]; omega
        · have hcn : (s[k].toNat : Int) = 49 := by rw [hc]; rfl
          clear hc hsym
          go_wp2
          go_round
          case rel => exact ⟨k + 1, by omega, by go_num, HP⟩
          case measure => simp [intOf]; omega
        · have hcn : (s[k].toNat : Int) = 120 := by rw [hc]; rfl
          clear hc hsym
          go_wp2
          go_round
          case rel => exact ⟨k + 1, by omega, by go_num, HP⟩
          case measure => simp [intOf]; omega
      · have n1 : ((s[k].toNat : Int) != 48) = true := by
          rw [bne_iff_ne]; intro h; exact hsym (by have : s[k] = 48 := UInt8.toNat.inj (by simp; omega); simp [Cu.sym, this])
        have n2 : ((s[k].toNat : Int) != 49) = true := by
          rw [bne_iff_ne]; intro h; exact hsym (by have : s[k] = 49 := UInt8.toNat.inj (by simp; omega); simp [Cu.sym, this])
        have n3 : ((s[k].toNat : Int) != 120) = true := by
          rw [bne_iff_ne]; intro h; exact hsym (by have : s[k] = 120 := UInt8.toNat.inj (by simp; omega); simp [Cu.sym, this])
        have HF : Hid (Cu.right s.data.toList = false) := by
          show _ = _
          have : s.data.toList.all Cu.sym = false := by
            rw [List.all_eq_false]
            exact ⟨s[k], by show s.data[k] ∈ s.data.toList; simp, hsym⟩
          simp [Cu.right, this]
        clear hsym
        go_wp2
        go_ret
        exact ⟨by rw [HF.out]; rfl, rfl⟩
    · have hkk : k = s.size := by omega
      subst hkk
      have HE : Hid (s.data.toList.all Cu.sym = true) := by
        have := hpre.out
        rw [List.take_of_length_le (by simp)] at this
        exact this
      by_cases he : s.size = 0
      · have hemp : s.toList.isEmpty = true := by rw [ByteArray.toList_eq]; exact List.isEmpty_iff_length_eq_zero.2 (by rw [len_data]; exact he)
        have HF : Hid (Cu.right s.data.toList = false) := by
          show _ = _
          have : ¬ (1 ≤ s.data.toList.length) := by rw [len_data]; omega
          simp only [Cu.right, this, decide_false, Bool.and_false, Bool.false_and]
        clear he
        go_wp2
        go_ret
        exact ⟨by rw [HF.out]; rfl, rfl⟩
      · have hemp : s.toList.isEmpty = false := by
          rw [ByteArray.toList_eq, ← Bool.not_eq_true]
          exact fun h => he (by have := List.isEmpty_iff_length_eq_zero.1 h; rw [len_data] at this; exact this)
        have HF : Hid (Cu.right s.data.toList = decide ((s.size : Int) ≤ 128)) := by
          show _ = _
          have h1 : 1 ≤ s.data.toList.length := by rw [len_data]; omega
          simp only [Cu.right, HE.out, h1, decide_true, Bool.true_and]
          apply decide_eq_decide.2
          rw [len_data]
          omega
        clear he
        go_wp2
        go_ret
        exact ⟨by rw [HF.out]; rfl, rfl⟩

set_option maxHeartbeats 400000 in
theorem turned_any (c : Int) (w : World) : Calls Tryz.prog 83 #[.int .u8 c] w fun e w' => e = .returned (.int .u8 (if c = 48 then 49 else 48)) ∧ w' = w := by
  by_cases h : c = 48
  · have hb : (c == 48) = true := beq_iff_eq.2 h
    rw [if_pos h]
    clear h
    go_enter Tryz.func83, Tryz.ntmps83
    go_wp2
    go_ret
    exact ⟨rfl, rfl⟩
  · have hb : (c == 48) = false := beq_eq_false_iff_ne.2 h
    rw [if_neg h]
    clear h
    go_enter Tryz.func83, Tryz.ntmps83
    go_wp2
    go_ret
    exact ⟨rfl, rfl⟩

set_option maxHeartbeats 1000000 in
theorem wrong_none (ao : Option Addr) (cap : Nat) (w : World) :
    Calls Tryz.prog 61 #[.slice ao 0 cap] w fun e w' => e = .returned (.int .i64 0) ∧ Below w.heap.size w w' := by
  go_enter Tryz.func61, Tryz.ntmps61
  go_wp2
  refine wp_loop_rounds 1 ?_
  rw [rounds_succ]
  go_wp2
  refine wp_loop_rounds 1 ?_
  rw [rounds_succ]
  go_wp2
  go_ret
  exact ⟨rfl, Below.refl _ _⟩

set_option maxHeartbeats 1000000 in
theorem wrong_cube (S : Nat → ByteArray) (n b o cap : Nat) (w : World) (hc : ∀ i, i < n → w.cell? ⟨b, o + i, none⟩ = some (.string (S i)))
    (hn : n ≤ 1000000) (hsz : ∀ i, i < n → (S i).size ≤ maxLen) (m : Nat) (hm : m < n) (hr : ∀ i, i < m → Cu.right (by_ S i) = true) (hw : Cu.right (by_ S m) = false) :
    Calls Tryz.prog 61 #[.slice (some ⟨b, o, none⟩) n cap] w fun e w' => e = .returned (.int .i64 10) ∧ Below w.heap.size w w' := by
  have HC : Hid (∀ i, i < n → w.cell? ⟨b, o + i, none⟩ = some (.string (S i))) := hc
  have HZ : Hid (∀ i, i < n → (S i).size ≤ maxLen) := hsz
  have HR : Hid (∀ i, i < m → Cu.right (by_ S i) = true) := hr
  have HW : Hid (Cu.right (by_ S m) = false) := hw
  clear hc hsz hr hw
  go_enter Tryz.func61, Tryz.ntmps61
  go_wp2
  go_loop [3] (fun i => ∃ k : Nat, k ≤ m ∧ i = .int .i64 k) (fun i => m + 1 - (intOf i).toNat)
  case atStart => exact ⟨0, Nat.zero_le _, rfl⟩
  case round =>
    obtain ⟨k, hk, rfl⟩ := hrel
    have hlt : k < n := by omega
    have hck : w.cell? ⟨b, o + k, none⟩ = some (.string (S k)) := HC.out k hlt
    by_cases hkm : k < m
    · go_wp2_with fail
      have q := Right_any (S k) w (HZ.out k hlt)
      rw [HR.out k hkm] at q
      refine q.mono ?_
      clear q
      rintro e w1 ⟨rfl, rfl⟩
      go_wp2
      go_round
      case rel => exact ⟨k + 1, by omega, by go_num⟩
      case measure => simp [intOf]; omega
    · have e : k = m := by omega
      subst e
      go_wp2_with fail
      have q := Right_any (S k) w (HZ.out k hlt)
      rw [HW.out] at q
      refine q.mono ?_
      clear q
      rintro e w1 ⟨rfl, rfl⟩
      go_wp2
      go_ret
      exact ⟨rfl, Below.refl _ _⟩

set_option maxHeartbeats 1000000 in
theorem wrong_rest (S : Nat → ByteArray) (n b o cap : Nat) (w : World) (hc : ∀ i, i < n → w.cell? ⟨b, o + i, none⟩ = some (.string (S i)))
    (hn0 : 0 < n) (hn : n ≤ 1000000) (hsz : ∀ i, i < n → (S i).size ≤ maxLen) (hr : ∀ i, i < n → Cu.right (by_ S i) = true) (r : Int)
    (hw : (r = 0 ∧ ∀ i, i < n → (S i).size = (S 0).size) ∨ (r = 11 ∧ ∃ m, m < n ∧ (S m).size ≠ (S 0).size)) :
    Calls Tryz.prog 61 #[.slice (some ⟨b, o, none⟩) n cap] w fun e w' => e = .returned (.int .i64 r) ∧ Below w.heap.size w w' := by
  have HC : Hid (∀ i, i < n → w.cell? ⟨b, o + i, none⟩ = some (.string (S i))) := hc
  have HZ : Hid (∀ i, i < n → (S i).size ≤ maxLen) := hsz
  have HR : Hid (∀ i, i < n → Cu.right (by_ S i) = true) := hr
  have HW : Hid ((r = 0 ∧ ∀ i, i < n → (S i).size = (S 0).size) ∨ (r = 11 ∧ ∃ m, m < n ∧ (S m).size ≠ (S 0).size)) := hw
  clear hc hsz hr hw
  go_enter Tryz.func61, Tryz.ntmps61
  go_wp2
  go_loop [3] (fun i => ∃ k : Nat, k ≤ n ∧ i = .int .i64 k) (fun i => n - (intOf i).toNat)
  case atStart => exact ⟨0, Nat.zero_le _, rfl⟩
  case round =>
    obtain ⟨k, hk, rfl⟩ := hrel
    by_cases hlt : k < n
    · have hck : w.cell? ⟨b, o + k, none⟩ = some (.string (S k)) := HC.out k hlt
      go_wp2_with fail
      have q := Right_any (S k) w (HZ.out k hlt)
      rw [HR.out k hlt] at q
      refine q.mono ?_
      clear q
      rintro e w1 ⟨rfl, rfl⟩
      go_wp2
      go_round
      case rel => exact ⟨k + 1, by omega, by go_num⟩
      case measure => simp [intOf]; omega
    · have hkn : k = n := by omega
      subst hkn
      have hc0 : w.cell? ⟨b, o, none⟩ = some (.string (S 0)) := HC.out 0 hn0
      go_wp2
      go_loopw [4] (fun i wr => ∃ j : Nat, 1 ≤ j ∧ j ≤ k ∧ i = .int .i64 j ∧ Hid (∀ i, i < j → (S i).size = (S 0).size) ∧ ∃ nq, wr = w.drewN nq) (fun i _ => k - (intOf i).toNat)
      case atStart =>
        refine ⟨1, Nat.le_refl _, hn0, rfl, fun i hi => ?_, 0, rfl⟩
        have e : i = 0 := by omega
        rw [e]
      case round =>
        obtain ⟨j, hj1, hj, rfl, hpre, nq0, rfl⟩ := hrel
        by_cases hjn : j < k
        · have hcj : w.cell? ⟨b, o + j, none⟩ = some (.string (S j)) := HC.out j hjn
          have hjI : (0 : Int) ≤ (j : Int) := by omega
          have hjI2 : (j : Int) < (k : Int) := by omega
          have h0I : (0 : Int) < (k : Int) := by omega
          by_cases hsame : (S j).size = (S 0).size
          · have hne : (((S j).size : Int) != ((S 0).size : Int)) = false := by rw [hsame]; simp
            have HSM : Hid ((S j).size = (S 0).size) := hsame
            clear hsame
            go_wp2
            go_quiet (fail)
            go_wp2
            go_roundw
            case rel =>
              refine ⟨j + 1, by omega, by omega, by go_num, fun i hi => ?_, nq0 + nq, ?_⟩
              · by_cases e : i = j
                · rw [e]; exact HSM.out
                · exact hpre.out i (by omega)
              · simp [World.drewN]
            case measure => simp [intOf]; omega
          · have hne : (((S j).size : Int) != ((S 0).size : Int)) = true := by rw [bne_iff_ne]; omega
            have HSM : Hid ((S j).size ≠ (S 0).size) := hsame
            clear hsame
            go_wp2
            go_quiet (fail)
            go_wp2
            go_ret
            refine ⟨?_, below_drewN' (below_drewN' (Below.refl _ _))⟩
            rcases HW.out with ⟨_, h⟩ | ⟨h, _⟩
            · exact absurd (h j hjn) HSM.out
            · rw [h]; rfl
        · go_wp2
          go_ret
          refine ⟨?_, below_drewN' (Below.refl _ _)⟩
          rcases HW.out with ⟨h, _⟩ | ⟨_, m, hm, h⟩
          · rw [h]; rfl
          · exact absurd (hpre.out m (by omega)) h
end Go.Proofs.YtipmlcdnfaobiaaGreat.Cub
namespace Go.Proofs.YtipmlcdnfaobiaaGreat.Cub
open Go.RowKit

/-- Bytes as cells. -/
def bv (l : List UInt8) : List Value := l.map fun c => .int .u8 (c.toNat : Int)
theorem bv_snoc (l : List UInt8) (c : UInt8) : bv (l ++ [c]) = bv l ++ [.int .u8 (c.toNat : Int)] := by simp [bv]

theorem meetL_take {a b : List UInt8} (h : a.length = b.length) {k : Nat} (hk : k < a.length) (c : UInt8) (hc : (if a[k] == 120 then b[k]'(h ▸ hk) else a[k]) = c) :
    (Cu.meetL a b).take (k + 1) = (Cu.meetL a b).take k ++ [c] := by
  have hk' : k < (Cu.meetL a b).length := by rw [Cu.meetL_length h]; exact hk
  rw [List.take_succ_eq_append_getElem hk', Cu.meetL_at h k hk, hc]

/-- The row of bytes that is gathered. -/
structure BothInv (w : World) (a b : List UInt8) (k : Nat) (p : Value) (wr : World) : Prop where
  own : wr.ownsRow w.heap.size 5 1 p k (bv ((Cu.meetL a b).take k))
  below : Below w.heap.size w wr

theorem BothInv.next {w : World} {a b : List UInt8} {k : Nat} {p : Value} {wr w1 : World} {o : Obj} {p' : Value} {c : UInt8} (hi : BothInv w a b k p wr) (h : a.length = b.length) (hk : k < a.length)
    (hc : (if a[k] == 120 then b[k]'(h ▸ hk) else a[k]) = c) (hown : w1.ownsRow w.heap.size 5 1 p' (k + 1) (bv ((Cu.meetL a b).take k) ++ [.int .u8 (c.toNat : Int)])) (hg : (wr.alloc o).grownBy w1 p.ownBlock) : BothInv w a b (k + 1) p' w1 := {
  own := by rw [meetL_take h hk c hc, bv_snoc]; exact hown
  below := (hi.below.alloc hi.below.size o).grown hg (by have := hi.below.size; simp; omega) (fun k hk => (hi.own.lt k hk).1) }

theorem BothInv.draw {w : World} {a b : List UInt8} {k : Nat} {p : Value} {wr : World} (hi : BothInv w a b k p wr) (n : Nat) : BothInv w a b k p (wr.drewN n) := ⟨hi.own, below_drewN' hi.below⟩

/-- Two bytes that do not part; two that do. -/
theorem part_sym_no {a b : List UInt8} {k : Nat} (ha : k < a.length) (hb : k < b.length) {x y : UInt8} (ea : a[k] = x) (eb : b[k] = y) (h : ((x == 49) != (y == 49) && (x == 48 || x == 49) && (y == 48 || y == 49)) = false) : Cu.partAt a b k = false := by
  unfold Cu.partAt
  rw [Cu.fixAt_lt ha, Cu.fixAt_lt hb, Cu.oneAt_lt ha, Cu.oneAt_lt hb, ea, eb]; exact h
theorem part_next {a b : List UInt8} {k : Nat} (h : ∀ i, i < k → Cu.partAt a b i = false) (hk : Cu.partAt a b k = false) : ∀ i, i < k + 1 → Cu.partAt a b i = false := by
  intro i hi
  by_cases e : i = k
  · rw [e]; exact hk
  · exact h i (by omega)
theorem meets_no {a b : List UInt8} {k : Nat} (hsa : a.all Cu.sym = true) (hsb : b.all Cu.sym = true) (h : a.length = b.length) (ha : k < a.length) {x y : UInt8} (ea : a[k] = x) (eb : b[k]'(h ▸ ha) = y) (hp : ((x == 49) != (y == 49) && (x == 48 || x == 49) && (y == 48 || y == 49)) = true) : Cu.meetsB a b = false := by
  rw [← Bool.not_eq_true, Cu.meetsB_iff hsa hsb h]
  intro H
  have := H k
  unfold Cu.partAt at this
  rw [Cu.fixAt_lt ha, Cu.fixAt_lt (h ▸ ha), Cu.oneAt_lt ha, Cu.oneAt_lt (h ▸ ha), ea, eb, hp] at this
  cases this

theorem one_news (w : World) (c : Int) (t : TypeId) (g : Nat) (hg : g = w.heap.size) : ∀ j u, [Value.int .u8 c][j]? = some u → (w.alloc (.cells #[.int .u8 c] t)).cell? ((⟨g, 0, none⟩ : Addr).add j) = some u :=
  new_cells w #[.int .u8 c] t g hg

set_option maxRecDepth 4000 in
set_option maxHeartbeats 2000000 in
theorem both_any (a b : ByteArray) (w : World) (ha : Cu.right a.data.toList = true) (hb : Cu.right b.data.toList = true) (hs : a.size = b.size) (r : ByteArray) (t : Bool)
    (hr : (t = true ∧ Cu.meetsB a.data.toList b.data.toList = true ∧ r = ⟨(Cu.meetL a.data.toList b.data.toList).toArray⟩) ∨ (t = false ∧ Cu.meetsB a.data.toList b.data.toList = false ∧ r = ByteArray.empty)) :
    Calls Tryz.prog 82 #[.string a, .string b] w fun e w' => e = .returned (.tuple #[.string r, .bool t]) ∧ Below w.heap.size w w' := by
  have HRR : Hid ((t = true ∧ Cu.meetsB a.data.toList b.data.toList = true ∧ r = ⟨(Cu.meetL a.data.toList b.data.toList).toArray⟩) ∨ (t = false ∧ Cu.meetsB a.data.toList b.data.toList = false ∧ r = ByteArray.empty)) := hr
  clear hr
  obtain ⟨ha1, ha2, ha3⟩ := Cu.right_all ha
  have HSA : Hid (a.data.toList.all Cu.sym = true) := ha1
  have HSB : Hid (b.data.toList.all Cu.sym = true) := (Cu.right_all hb).1
  have HL : Hid (a.data.toList.length = b.data.toList.length) := hs
  have hn1 : 1 ≤ a.size := ha2
  have hn2 : a.size ≤ 128 := ha3
  have hbs : a.size ≤ b.size := Nat.le_of_eq hs
  have hbs2 : b.size ≤ a.size := Nat.le_of_eq hs.symm
  clear ha hb hs ha1 ha2 ha3
  obtain ⟨i0, hi, hz0, hz1, hz2⟩ := info_parts Tryz.infoByte
  have HI : Hid _ := hi
  have HZ0 : Hid _ := hz0
  have HZ1 : Hid _ := hz1
  have HZ2 : Hid _ := hz2
  clear hi hz0 hz1 hz2
  go_enter Tryz.func82, Tryz.ntmps82
  go_wp2
  go_loopw [6, 7] (fun p i wr => ∃ k : Nat, k ≤ a.size ∧ i = .int .i64 k ∧ BothInv w a.data.toList b.data.toList k p wr ∧ Hid (∀ i, i < k → Cu.partAt a.data.toList b.data.toList i = false)) (fun _ i _ => a.size - (intOf i).toNat)
  case atStart => exact ⟨0, Nat.zero_le _, rfl, ⟨by simp [bv]; exact World.ownsRow_nil _ _ _ _, Below.refl _ _⟩, fun i hi => absurd hi (Nat.not_lt_zero i)⟩
  case round =>
    obtain ⟨k, hk, rfl, inv, hpre⟩ := hrel
    by_cases hlt : k < a.size
    · have hltb : k < b.size := by omega
      have HKA : Hid (k < a.data.toList.length) := by show _ < _; rw [len_data]; exact hlt
      have HKB : Hid (k < b.data.toList.length) := by show _ < _; rw [len_data]; exact hltb
      have hkI : (0 : Int) ≤ (k : Int) := by omega
      have hkI2 : (k : Int) < (a.size : Int) := by omega
      have hkI3 : (k : Int) < (b.size : Int) := by omega
      have EA : Hid (a.data.toList[k]'HKA.out = a[k]'hlt) := rfl
      have EB : Hid (b.data.toList[k]'HKB.out = b[k]'hltb) := rfl
      rcases Cu.sym_at HSA.out k HKA.out with ea | ea | ea
      · rw [EA.out] at ea
        rcases Cu.sym_at HSB.out k HKB.out with eb | eb | eb
        all_goals rw [EB.out] at eb
        · have hA : ((a[k]'hlt).toNat : Int) = 48 := by rw [ea]; rfl
          have hB : ((b[k]'hltb).toNat : Int) = 48 := by rw [eb]; rfl
          have HC : Hid ((if a.data.toList[k]'HKA.out == 120 then b.data.toList[k]'HKB.out else a.data.toList[k]'HKA.out) = (48 : UInt8)) := by
            show _ = _; rw [EA.out, EB.out, ea, eb]; rfl
          have HP : Hid (∀ i, i < k + 1 → Cu.partAt a.data.toList b.data.toList i = false) := part_next hpre.out (part_sym_no HKA.out HKB.out (EA.out.trans ea) (EB.out.trans eb) (by decide))
          clear ea eb
          go_wp2
          go_quiet (fail)
          go_wp2_with (first | (at_builtin; refine wpList_append_own_at _ rfl _ _ 134 rfl w.heap.size 5 i0 (.int .u8 0) 1 1 Tryz.underlying134 HI.out HZ0.out HZ1.out HZ2.out rfl (by decide) u6 k (bv ((Cu.meetL a.data.toList b.data.toList).take k)) rfl (inv.own.alloc _) ⟨wr.heap.size, 0, none⟩ 1 1 [.int .u8 48] rfl rfl (one_news _ _ _ _ rfl) ?c2 ?c3 ?c4 ?c5 ?_))
          case c2 => intro u hu; simp at hu; subst hu; rfl
          case c3 => unfold maxLen; omega
          case c4 => omega
          case c5 => have := inv.below.size; simp; omega
          intro v' w2 hown2 hgrow2 _ _
          have J : Hid _ := (inv.draw _).next HL.out HKA.out HC.out hown2 hgrow2
          clear hown2 hgrow2
          go_wp2
          go_roundw
          case rel => exact ⟨k + 1, by omega, by go_num, J.out, HP⟩
          case measure => simp [intOf]; omega
        · have hA : ((a[k]'hlt).toNat : Int) = 48 := by rw [ea]; rfl
          have hB : ((b[k]'hltb).toNat : Int) = 49 := by rw [eb]; rfl
          have HM : Hid (Cu.meetsB a.data.toList b.data.toList = false) := meets_no HSA.out HSB.out HL.out HKA.out (EA.out.trans ea) (EB.out.trans eb) (by decide)
          clear ea eb
          go_wp2
          go_quiet (fail)
          go_wp2
          go_ret2
          refine ⟨?_, below_drewN' inv.below⟩
          rcases HRR.out with ⟨_, h, _⟩ | ⟨h1, _, h2⟩
          · rw [HM.out] at h; cases h
          · rw [h1, h2]; rfl
        · have hA : ((a[k]'hlt).toNat : Int) = 48 := by rw [ea]; rfl
          have hB : ((b[k]'hltb).toNat : Int) = 120 := by rw [eb]; rfl
          have HC : Hid ((if a.data.toList[k]'HKA.out == 120 then b.data.toList[k]'HKB.out else a.data.toList[k]'HKA.out) = (48 : UInt8)) := by
            show _ = _; rw [EA.out, EB.out, ea, eb]; rfl
          have HP : Hid (∀ i, i < k + 1 → Cu.partAt a.data.toList b.data.toList i = false) := part_next hpre.out (part_sym_no HKA.out HKB.out (EA.out.trans ea) (EB.out.trans eb) (by decide))
          clear ea eb
          go_wp2
          go_quiet (fail)
          go_wp2_with (first | (at_builtin; refine wpList_append_own_at _ rfl _ _ 134 rfl w.heap.size 5 i0 (.int .u8 0) 1 1 Tryz.underlying134 HI.out HZ0.out HZ1.out HZ2.out rfl (by decide) u6 k (bv ((Cu.meetL a.data.toList b.data.toList).take k)) rfl (inv.own.alloc _) ⟨wr.heap.size, 0, none⟩ 1 1 [.int .u8 48] rfl rfl (one_news _ _ _ _ rfl) ?c2 ?c3 ?c4 ?c5 ?_))
          case c2 => intro u hu; simp at hu; subst hu; rfl
          case c3 => unfold maxLen; omega
          case c4 => omega
          case c5 => have := inv.below.size; simp; omega
          intro v' w2 hown2 hgrow2 _ _
          have J : Hid _ := (inv.draw _).next HL.out HKA.out HC.out hown2 hgrow2
          clear hown2 hgrow2
          go_wp2
          go_roundw
          case rel => exact ⟨k + 1, by omega, by go_num, J.out, HP⟩
          case measure => simp [intOf]; omega
      · rw [EA.out] at ea
        rcases Cu.sym_at HSB.out k HKB.out with eb | eb | eb
        all_goals rw [EB.out] at eb
        · have hA : ((a[k]'hlt).toNat : Int) = 49 := by rw [ea]; rfl
          have hB : ((b[k]'hltb).toNat : Int) = 48 := by rw [eb]; rfl
          have HM : Hid (Cu.meetsB a.data.toList b.data.toList = false) := meets_no HSA.out HSB.out HL.out HKA.out (EA.out.trans ea) (EB.out.trans eb) (by decide)
          clear ea eb
          go_wp2
          go_quiet (fail)
          go_wp2
          go_ret2
          refine ⟨?_, below_drewN' inv.below⟩
          rcases HRR.out with ⟨_, h, _⟩ | ⟨h1, _, h2⟩
          · rw [HM.out] at h; cases h
          · rw [h1, h2]; rfl
        · have hA : ((a[k]'hlt).toNat : Int) = 49 := by rw [ea]; rfl
          have hB : ((b[k]'hltb).toNat : Int) = 49 := by rw [eb]; rfl
          have HC : Hid ((if a.data.toList[k]'HKA.out == 120 then b.data.toList[k]'HKB.out else a.data.toList[k]'HKA.out) = (49 : UInt8)) := by
            show _ = _; rw [EA.out, EB.out, ea, eb]; rfl
          have HP : Hid (∀ i, i < k + 1 → Cu.partAt a.data.toList b.data.toList i = false) := part_next hpre.out (part_sym_no HKA.out HKB.out (EA.out.trans ea) (EB.out.trans eb) (by decide))
          clear ea eb
          go_wp2
          go_quiet (fail)
          go_wp2_with (first | (at_builtin; refine wpList_append_own_at _ rfl _ _ 134 rfl w.heap.size 5 i0 (.int .u8 0) 1 1 Tryz.underlying134 HI.out HZ0.out HZ1.out HZ2.out rfl (by decide) u6 k (bv ((Cu.meetL a.data.toList b.data.toList).take k)) rfl (inv.own.alloc _) ⟨wr.heap.size, 0, none⟩ 1 1 [.int .u8 49] rfl rfl (one_news _ _ _ _ rfl) ?c2 ?c3 ?c4 ?c5 ?_))
          case c2 => intro u hu; simp at hu; subst hu; rfl
          case c3 => unfold maxLen; omega
          case c4 => omega
          case c5 => have := inv.below.size; simp; omega
          intro v' w2 hown2 hgrow2 _ _
          have J : Hid _ := (inv.draw _).next HL.out HKA.out HC.out hown2 hgrow2
          clear hown2 hgrow2
          go_wp2
          go_roundw
          case rel => exact ⟨k + 1, by omega, by go_num, J.out, HP⟩
          case measure => simp [intOf]; omega
        · have hA : ((a[k]'hlt).toNat : Int) = 49 := by rw [ea]; rfl
          have hB : ((b[k]'hltb).toNat : Int) = 120 := by rw [eb]; rfl
          have HC : Hid ((if a.data.toList[k]'HKA.out == 120 then b.data.toList[k]'HKB.out else a.data.toList[k]'HKA.out) = (49 : UInt8)) := by
            show _ = _; rw [EA.out, EB.out, ea, eb]; rfl
          have HP : Hid (∀ i, i < k + 1 → Cu.partAt a.data.toList b.data.toList i = false) := part_next hpre.out (part_sym_no HKA.out HKB.out (EA.out.trans ea) (EB.out.trans eb) (by decide))
          clear ea eb
          go_wp2
          go_quiet (fail)
          go_wp2_with (first | (at_builtin; refine wpList_append_own_at _ rfl _ _ 134 rfl w.heap.size 5 i0 (.int .u8 0) 1 1 Tryz.underlying134 HI.out HZ0.out HZ1.out HZ2.out rfl (by decide) u6 k (bv ((Cu.meetL a.data.toList b.data.toList).take k)) rfl (inv.own.alloc _) ⟨wr.heap.size, 0, none⟩ 1 1 [.int .u8 49] rfl rfl (one_news _ _ _ _ rfl) ?c2 ?c3 ?c4 ?c5 ?_))
          case c2 => intro u hu; simp at hu; subst hu; rfl
          case c3 => unfold maxLen; omega
          case c4 => omega
          case c5 => have := inv.below.size; simp; omega
          intro v' w2 hown2 hgrow2 _ _
          have J : Hid _ := (inv.draw _).next HL.out HKA.out HC.out hown2 hgrow2
          clear hown2 hgrow2
          go_wp2
          go_roundw
          case rel => exact ⟨k + 1, by omega, by go_num, J.out, HP⟩
          case measure => simp [intOf]; omega
      · rw [EA.out] at ea
        rcases Cu.sym_at HSB.out k HKB.out with eb | eb | eb
        all_goals rw [EB.out] at eb
        · have hA : ((a[k]'hlt).toNat : Int) = 120 := by rw [ea]; rfl
          have hB : ((b[k]'hltb).toNat : Int) = 48 := by rw [eb]; rfl
          have HC : Hid ((if a.data.toList[k]'HKA.out == 120 then b.data.toList[k]'HKB.out else a.data.toList[k]'HKA.out) = (48 : UInt8)) := by
            show _ = _; rw [EA.out, EB.out, ea, eb]; rfl
          have HP : Hid (∀ i, i < k + 1 → Cu.partAt a.data.toList b.data.toList i = false) := part_next hpre.out (part_sym_no HKA.out HKB.out (EA.out.trans ea) (EB.out.trans eb) (by decide))
          clear ea eb
          go_wp2
          go_quiet (fail)
          go_wp2_with (first | (at_builtin; refine wpList_append_own_at _ rfl _ _ 134 rfl w.heap.size 5 i0 (.int .u8 0) 1 1 Tryz.underlying134 HI.out HZ0.out HZ1.out HZ2.out rfl (by decide) u6 k (bv ((Cu.meetL a.data.toList b.data.toList).take k)) rfl (inv.own.alloc _) ⟨wr.heap.size, 0, none⟩ 1 1 [.int .u8 48] rfl rfl (one_news _ _ _ _ rfl) ?c2 ?c3 ?c4 ?c5 ?_))
          case c2 => intro u hu; simp at hu; subst hu; rfl
          case c3 => unfold maxLen; omega
          case c4 => omega
          case c5 => have := inv.below.size; simp; omega
          intro v' w2 hown2 hgrow2 _ _
          have J : Hid _ := (inv.draw _).next HL.out HKA.out HC.out hown2 hgrow2
          clear hown2 hgrow2
          go_wp2
          go_roundw
          case rel => exact ⟨k + 1, by omega, by go_num, J.out, HP⟩
          case measure => simp [intOf]; omega
        · have hA : ((a[k]'hlt).toNat : Int) = 120 := by rw [ea]; rfl
          have hB : ((b[k]'hltb).toNat : Int) = 49 := by rw [eb]; rfl
          have HC : Hid ((if a.data.toList[k]'HKA.out == 120 then b.data.toList[k]'HKB.out else a.data.toList[k]'HKA.out) = (49 : UInt8)) := by
            show _ = _; rw [EA.out, EB.out, ea, eb]; rfl
          have HP : Hid (∀ i, i < k + 1 → Cu.partAt a.data.toList b.data.toList i = false) := part_next hpre.out (part_sym_no HKA.out HKB.out (EA.out.trans ea) (EB.out.trans eb) (by decide))
          clear ea eb
          go_wp2
          go_quiet (fail)
          go_wp2_with (first | (at_builtin; refine wpList_append_own_at _ rfl _ _ 134 rfl w.heap.size 5 i0 (.int .u8 0) 1 1 Tryz.underlying134 HI.out HZ0.out HZ1.out HZ2.out rfl (by decide) u6 k (bv ((Cu.meetL a.data.toList b.data.toList).take k)) rfl (inv.own.alloc _) ⟨wr.heap.size, 0, none⟩ 1 1 [.int .u8 49] rfl rfl (one_news _ _ _ _ rfl) ?c2 ?c3 ?c4 ?c5 ?_))
          case c2 => intro u hu; simp at hu; subst hu; rfl
          case c3 => unfold maxLen; omega
          case c4 => omega
          case c5 => have := inv.below.size; simp; omega
          intro v' w2 hown2 hgrow2 _ _
          have J : Hid _ := (inv.draw _).next HL.out HKA.out HC.out hown2 hgrow2
          clear hown2 hgrow2
          go_wp2
          go_roundw
          case rel => exact ⟨k + 1, by omega, by go_num, J.out, HP⟩
          case measure => simp [intOf]; omega
        · have hA : ((a[k]'hlt).toNat : Int) = 120 := by rw [ea]; rfl
          have hB : ((b[k]'hltb).toNat : Int) = 120 := by rw [eb]; rfl
          have HC : Hid ((if a.data.toList[k]'HKA.out == 120 then b.data.toList[k]'HKB.out else a.data.toList[k]'HKA.out) = (120 : UInt8)) := by
            show _ = _; rw [EA.out, EB.out, ea, eb]; rfl
          have HP : Hid (∀ i, i < k + 1 → Cu.partAt a.data.toList b.data.toList i = false) := part_next hpre.out (part_sym_no HKA.out HKB.out (EA.out.trans ea) (EB.out.trans eb) (by decide))
          clear ea eb
          go_wp2
          go_quiet (fail)
          go_wp2_with (first | (at_builtin; refine wpList_append_own_at _ rfl _ _ 134 rfl w.heap.size 5 i0 (.int .u8 0) 1 1 Tryz.underlying134 HI.out HZ0.out HZ1.out HZ2.out rfl (by decide) u6 k (bv ((Cu.meetL a.data.toList b.data.toList).take k)) rfl (inv.own.alloc _) ⟨wr.heap.size, 0, none⟩ 1 1 [.int .u8 120] rfl rfl (one_news _ _ _ _ rfl) ?c2 ?c3 ?c4 ?c5 ?_))
          case c2 => intro u hu; simp at hu; subst hu; rfl
          case c3 => unfold maxLen; omega
          case c4 => omega
          case c5 => have := inv.below.size; simp; omega
          intro v' w2 hown2 hgrow2 _ _
          have J : Hid _ := (inv.draw _).next HL.out HKA.out HC.out hown2 hgrow2
          clear hown2 hgrow2
          go_wp2
          go_roundw
          case rel => exact ⟨k + 1, by omega, by go_num, J.out, HP⟩
          case measure => simp [intOf]; omega
    · have hkn : k = a.size := by omega
      subst hkn
      have HM : Hid (Cu.meetsB a.data.toList b.data.toList = true) := (Cu.meetsB_iff HSA.out HSB.out HL.out).2 (fun i => by
        by_cases hi : i < a.size
        · exact hpre.out i hi
        · unfold Cu.partAt; rw [Cu.fixAt_ge (l := a.data.toList) (by rw [len_data]; omega)]; simp)
      have HTK : Hid ((Cu.meetL a.data.toList b.data.toList).take a.size = Cu.meetL a.data.toList b.data.toList) := List.take_of_length_le (by rw [Cu.meetL_length HL.out, len_data]; exact Nat.le_refl _)
      have HLN : Hid ((Cu.meetL a.data.toList b.data.toList).length = a.size) := by show _ = _; rw [Cu.meetL_length HL.out, len_data]
      have hown := inv.own
      rw [HTK.out] at hown
      obtain ⟨g, cap, rfl, hcell⟩ : ∃ g cap, u6 = .slice (some ⟨g, 0, none⟩) a.size cap ∧ ∀ i, i < a.size → wr.cell? ⟨g, 0 + i, none⟩ = some (.int .u8 (((Cu.meetL a.data.toList b.data.toList).map fun c => (c.toNat : Int)).getD i 0)) := by
        have h0 := hown
        rcases hown.2 with ⟨_, e⟩ | ⟨g, cap, cur, e, _⟩
        · omega
        · subst e
          refine ⟨g, cap, rfl, fun i hi => ?_⟩
          rw [Nat.zero_add, h0.cellAt i (by omega)]
          have hi' : i < (Cu.meetL a.data.toList b.data.toList).length := by rw [HLN.out]; exact hi
          simp [bv, List.getElem?_eq_getElem hi', List.getD_eq_getElem?_getD]
      have hcv := run_convert_bytes_arg (P := Tryz.prog) wr 134 5 Tryz.underlying134 Tryz.underlying5 g 0 a.size cap ((Cu.meetL a.data.toList b.data.toList).map fun c => (c.toNat : Int)) (by rw [List.length_map]; exact HLN.out) hcell 9 Tryz.underlying9
      have hst : strOfNums ((Cu.meetL a.data.toList b.data.toList).map fun c => (c.toNat : Int)) = ⟨(Cu.meetL a.data.toList b.data.toList).toArray⟩ := by
        unfold strOfNums; congr 1; simp [Function.comp_def]
      rw [hst] at hcv
      have HBL : Hid _ := inv.below
      clear hown hcell hst inv
      go_wp2
      go_ret2
      refine ⟨?_, HBL.out⟩
      rcases HRR.out with ⟨h1, _, h2⟩ | ⟨_, h, _⟩
      · rw [h1, h2]; rfl
      · rw [HM.out] at h; cases h
end Go.Proofs.YtipmlcdnfaobiaaGreat.Cub
namespace Go.Proofs.YtipmlcdnfaobiaaGreat.Cub
open Go.RowKit
attribute [local go_sem ↓] Go.wp_at_zero Go.wp_at_succ

theorem hid {p : Prop} (h : p) : Hid p := h

/-- Texts as cells. -/
def svs (ls : List (List UInt8)) : List Value := ls.map sv
theorem svs_snoc (ls : List (List UInt8)) (l : List UInt8) : svs (ls ++ [l]) = svs ls ++ [sv l] := by simp [svs]

/-- A text of one byte out of a row of one byte. -/
theorem conv_one (c : Int) (w : World) : (convert 134 9 (.slice (some ⟨w.heap.size, 0, none⟩) 1 1)).run Tryz.prog (w.alloc (.cells #[.int .u8 c] 5)) = .ok (.string ⟨#[UInt8.ofNat c.toNat]⟩) (w.alloc (.cells #[.int .u8 c] 5)) := by
  have := run_convert_bytes_arg (P := Tryz.prog) (w.alloc (.cells #[.int .u8 c] 5)) 134 5 Tryz.underlying134 Tryz.underlying5 w.heap.size 0 1 1 [c] rfl (by
    intro i hi
    have e : i = 0 := by omega
    subst e
    have h := new_0 w (.cells #[.int .u8 c] 5)
    unfold World.cell?
    rw [h]; rfl) 9 Tryz.underlying9
  rw [this]; rfl

theorem part_bytes {a b m : ByteArray} {k : Nat} {t : UInt8} (hm : m = ⟨(Cu.meetL a.data.toList b.data.toList).toArray⟩) (ht : Cu.turned b.data.toList k = t) :
    (m.extract 0 k ++ ⟨#[t]⟩ ++ a.extract (k + 1) a.size) = ⟨(Cu.partL a.data.toList b.data.toList k).toArray⟩ := by
  subst hm ht
  apply ByteArray.ext
  apply Array.ext'
  simp only [ByteArray.data_append, ByteArray.data_extract, Array.toList_append, Array.toList_extract, Cu.partL]
  simp only [List.extract_eq_take_drop, List.drop_zero, Nat.sub_zero]
  congr 1
  apply List.take_of_length_le
  simp only [List.length_drop, len_data]
  omega

theorem rcut_step {a b m : ByteArray} {w wr w3 : World} {o1 o2 : Obj} {k : Nat} {p v : Value} {t : UInt8} (_hl : a.data.toList.length = b.data.toList.length) (_hk : k < a.data.toList.length)
    (hm : m = ⟨(Cu.meetL a.data.toList b.data.toList).toArray⟩) (hc : Cu.cond a.data.toList b.data.toList k = true) (ht : Cu.turned b.data.toList k = t)
    (ho : wr.ownsRow w.heap.size 9 1 p (Cu.cutTo a.data.toList b.data.toList k).length (svs (Cu.cutTo a.data.toList b.data.toList k))) (hbl : Below w.heap.size w wr)
    (hown : w3.ownsRow w.heap.size 9 1 v ((Cu.cutTo a.data.toList b.data.toList k).length + 1) (svs (Cu.cutTo a.data.toList b.data.toList k) ++ [.string (m.extract 0 k ++ ⟨#[t]⟩ ++ a.extract (k + 1) a.size)]))
    (hg : ((wr.alloc o1).alloc o2).drew.grownBy w3 p.ownBlock) :
    w3.ownsRow w.heap.size 9 1 v (Cu.cutTo a.data.toList b.data.toList (k + 1)).length (svs (Cu.cutTo a.data.toList b.data.toList (k + 1))) ∧ Below w.heap.size w w3 := by
  refine ⟨?_, ?_⟩
  · rw [Cu.cutTo, hc, if_pos rfl, svs_snoc, List.length_append, List.length_singleton]
    rw [part_bytes hm ht] at hown
    exact hown
  · have hs := hbl.size
    exact ((hbl.alloc hs o1).alloc (by simp; omega) o2).drew.grown hg (by simp; omega) (fun q hq => (ho.lt q hq).1)

set_option maxRecDepth 8000 in
set_option maxHeartbeats 4000000 in
theorem rcut_meet (a b : ByteArray) (w : World) (ha : Cu.right a.data.toList = true) (hb : Cu.right b.data.toList = true) (hs : a.size = b.size) (hm : Cu.meetsB a.data.toList b.data.toList = true) :
    Calls Tryz.prog 62 #[.string a, .string b] w fun e w' => ∃ v, e = .returned v ∧ w'.ownsRow w.heap.size 9 1 v (Cu.cutTo a.data.toList b.data.toList a.size).length (svs (Cu.cutTo a.data.toList b.data.toList a.size)) ∧ Below w.heap.size w w' := by
  have HA : Hid (Cu.right a.data.toList = true) := ha
  have HB : Hid (Cu.right b.data.toList = true) := hb
  have HM : Hid (Cu.meetsB a.data.toList b.data.toList = true) := hm
  have HE : Hid (a.size = b.size) := hs
  obtain ⟨ha1, ha2, ha3⟩ := Cu.right_all ha
  have HSA : Hid (a.data.toList.all Cu.sym = true) := ha1
  have HSB : Hid (b.data.toList.all Cu.sym = true) := (Cu.right_all hb).1
  have HL : Hid (a.data.toList.length = b.data.toList.length) := hs
  have hn1 : 1 ≤ a.size := ha2
  have hn2 : a.size ≤ 128 := ha3
  have hbs : a.size ≤ b.size := Nat.le_of_eq hs
  have hbs2 : b.size ≤ a.size := Nat.le_of_eq hs.symm
  clear ha hb hm hs ha1 ha2 ha3
  obtain ⟨i0, hi, hz0, hz1, hz2⟩ := info_parts Tryz.infoString
  have HI : Hid _ := hi
  have HZ0 : Hid _ := hz0
  have HZ1 : Hid _ := hz1
  have HZ2 : Hid _ := hz2
  clear hi hz0 hz1 hz2
  have hcv : ∀ (c : Int) (w : World), (convert 134 9 (.slice (some ⟨w.heap.size, 0, none⟩) 1 1)).run Tryz.prog (w.alloc (.cells #[.int .u8 c] 5)).drew = .ok (.string ⟨#[UInt8.ofNat c.toNat]⟩) (w.alloc (.cells #[.int .u8 c] 5)).drew := fun c w => conv_one c w.drew
  go_enter Tryz.func62, Tryz.ntmps62
  go_wp2_with fail
  refine (both_any a b _ HA.out HB.out HE.out ⟨(Cu.meetL a.data.toList b.data.toList).toArray⟩ true (Or.inl ⟨rfl, HM.out, rfl⟩)).mono ?_
  rintro e w1 ⟨rfl, hb1⟩
  obtain ⟨m, hmm⟩ : ∃ m : ByteArray, m = ⟨(Cu.meetL a.data.toList b.data.toList).toArray⟩ := ⟨_, rfl⟩
  rw [← hmm]
  have HMM : Hid (m = ⟨(Cu.meetL a.data.toList b.data.toList).toArray⟩) := hmm
  have hms : m.size = a.size := by rw [hmm]; show (Cu.meetL a.data.toList b.data.toList).toArray.size = _; simp; rw [Cu.meetL_length HL.out, len_data]
  have hms1 : m.size ≤ a.size := Nat.le_of_eq hms
  have hms2 : a.size ≤ m.size := Nat.le_of_eq hms.symm
  clear hmm hms
  go_wp2
  go_loopw [7, 8] (fun p i wr => ∃ k : Nat, k ≤ a.size ∧ i = .int .i64 k ∧ wr.ownsRow w.heap.size 9 1 p (Cu.cutTo a.data.toList b.data.toList k).length (svs (Cu.cutTo a.data.toList b.data.toList k)) ∧ Below w.heap.size w wr) (fun _ i _ => a.size - (intOf i).toNat)
  case atStart => exact ⟨0, Nat.zero_le _, rfl, World.ownsRow_nil _ _ _ _, hb1⟩
  case round =>
    obtain ⟨k, hk, rfl, hown, hbl⟩ := hrel
    have HO := hid hown
    clear hown
    by_cases hlt : k < a.size
    · have hltb : k < b.size := by omega
      have hkI : (0 : Int) ≤ (k : Int) := by omega
      have hkI2 : (k : Int) < (a.size : Int) := by omega
      have hkI3 : (k : Int) < (b.size : Int) := by omega
      have hkI4 : (k : Int) ≤ (m.size : Int) := by omega
      have hkI5 : (0 : Int) ≤ (k : Int) + 1 := by omega
      have hkI6 : (k : Int) + 1 ≤ (a.size : Int) := by omega
      have HKA : Hid (k < a.data.toList.length) := by show _ < _; rw [len_data]; exact hlt
      have HKB : Hid (k < b.data.toList.length) := by show _ < _; rw [len_data]; exact hltb
      have EA : Hid (a.data.toList[k]'HKA.out = a[k]'hlt) := rfl
      have EB : Hid (b.data.toList[k]'HKB.out = b[k]'hltb) := rfl
      rcases Cu.sym_at HSA.out k HKA.out with ea | ea | ea
      · rw [EA.out] at ea
        have hA : ((a[k]'hlt).toNat : Int) = 48 := by rw [ea]; rfl
        have HC : Hid (Cu.cond a.data.toList b.data.toList k = false) := by
          show _ = _; unfold Cu.cond; rw [Cu.fixAt_lt HKA.out, EA.out, ea]; rfl
        clear ea
        go_wp2
        go_roundw
        case rel =>
          refine ⟨k + 1, by omega, by go_num, ?_, hbl⟩
          rw [Cu.cutTo, HC.out, if_neg (by simp), List.append_nil]
          exact HO.out
        case measure => simp [intOf]; omega
      · rw [EA.out] at ea
        have hA : ((a[k]'hlt).toNat : Int) = 49 := by rw [ea]; rfl
        have HC : Hid (Cu.cond a.data.toList b.data.toList k = false) := by
          show _ = _; unfold Cu.cond; rw [Cu.fixAt_lt HKA.out, EA.out, ea]; rfl
        clear ea
        go_wp2
        go_roundw
        case rel =>
          refine ⟨k + 1, by omega, by go_num, ?_, hbl⟩
          rw [Cu.cutTo, HC.out, if_neg (by simp), List.append_nil]
          exact HO.out
        case measure => simp [intOf]; omega
      · rw [EA.out] at ea
        have hA : ((a[k]'hlt).toNat : Int) = 120 := by rw [ea]; rfl
        rcases Cu.sym_at HSB.out k HKB.out with eb | eb | eb
        · rw [EB.out] at eb
          have hB : ((b[k]'hltb).toNat : Int) = 48 := by rw [eb]; rfl
          have HC : Hid (Cu.cond a.data.toList b.data.toList k = true) := by
            show _ = _; unfold Cu.cond; rw [Cu.fixAt_lt HKA.out, Cu.fixAt_lt HKB.out, EA.out, EB.out, ea, eb]; rfl
          have HT : Hid (Cu.turned b.data.toList k = 49) := by
            show _ = _; unfold Cu.turned; rw [Cu.oneAt_lt HKB.out, EB.out, eb]; rfl
          clear ea eb
          go_wp2
          have hsl : ∀ w : World, (Instr.slice 9 (.string a) (some (.int .i64 ((k : Int) + 1))) none none).run Tryz.prog w = .ok (.string (a.extract (k + 1) a.size)) w := fun w => by
            rw [run_slice_string_l w 9 a Tryz.underlying9 .i64 ((k : Int) + 1) (by omega) (by omega)]
            rfl
          have hsz1 : ¬ (9223372036854775807 < min k m.size + 1) := by omega
          have hsz2 : ¬ (9223372036854775807 < min k m.size + 1 + (a.size - (k + 1))) := by omega
          have hwr : IntKind.i64.wrap ((k : Int) + 1) = (k : Int) + 1 := by rw [IntKind.wrap_i64]; omega
          have hcl := Cu.cutTo_length a.data.toList b.data.toList k
          have hwsz := hbl.size
          go_region_law (first | (refine step_append_lies _ (by rfl) (.tmp 35) (.tmp 51) 39 (by rfl) w.heap.size 9 i0 (.string ByteArray.empty) 1 16 Tryz.underlying39 HI.out HZ0.out HZ1.out HZ2.out rfl (by decide) u7 (Cu.cutTo a.data.toList b.data.toList k).length (svs (Cu.cutTo a.data.toList b.data.toList k)) (by rfl) (by exact ((HO.out.alloc _).alloc _).drew) ⟨wr.heap.size + 1, 0, none⟩ 1 1 [.string (m.extract 0 k ++ { data := #[49] } ++ a.extract (k + 1) a.size)] (by rfl) rfl (by exact new_cells (wr.alloc _) #[.string (m.extract 0 k ++ { data := #[49] } ++ a.extract (k + 1) a.size)] 9 _ (World.size_alloc _ _).symm) (by intro u hu; simp at hu; subst hu; rfl) (by decide) (by unfold maxLen; omega) (by omega) (by simp; omega) _ rfl ?_; intro g cap w3 hown3 hgrow3 hat3 hlt3) | (go_simp; go_at_call 83; refine (turned_any _ _).mono ?_; rintro e w2 ⟨rfl, rfl⟩; dsimp only))
          go_wp2
          go_roundw
          case rel =>
            have R := rcut_step HL.out HKA.out HMM.out HC.out HT.out HO.out hbl hown3 hgrow3
            exact ⟨k + 1, by omega, by go_num, R.1, R.2⟩
          case measure => simp [intOf]; omega
        · rw [EB.out] at eb
          have hB : ((b[k]'hltb).toNat : Int) = 49 := by rw [eb]; rfl
          have HC : Hid (Cu.cond a.data.toList b.data.toList k = true) := by
            show _ = _; unfold Cu.cond; rw [Cu.fixAt_lt HKA.out, Cu.fixAt_lt HKB.out, EA.out, EB.out, ea, eb]; rfl
          have HT : Hid (Cu.turned b.data.toList k = 48) := by
            show _ = _; unfold Cu.turned; rw [Cu.oneAt_lt HKB.out, EB.out, eb]; rfl
          clear ea eb
          go_wp2
          have hsl : ∀ w : World, (Instr.slice 9 (.string a) (some (.int .i64 ((k : Int) + 1))) none none).run Tryz.prog w = .ok (.string (a.extract (k + 1) a.size)) w := fun w => by
            rw [run_slice_string_l w 9 a Tryz.underlying9 .i64 ((k : Int) + 1) (by omega) (by omega)]
            rfl
          have hsz1 : ¬ (9223372036854775807 < min k m.size + 1) := by omega
          have hsz2 : ¬ (9223372036854775807 < min k m.size + 1 + (a.size - (k + 1))) := by omega
          have hwr : IntKind.i64.wrap ((k : Int) + 1) = (k : Int) + 1 := by rw [IntKind.wrap_i64]; omega
          have hcl := Cu.cutTo_length a.data.toList b.data.toList k
          have hwsz := hbl.size
          go_region_law (first | (refine step_append_lies _ (by rfl) (.tmp 35) (.tmp 51) 39 (by rfl) w.heap.size 9 i0 (.string ByteArray.empty) 1 16 Tryz.underlying39 HI.out HZ0.out HZ1.out HZ2.out rfl (by decide) u7 (Cu.cutTo a.data.toList b.data.toList k).length (svs (Cu.cutTo a.data.toList b.data.toList k)) (by rfl) (by exact ((HO.out.alloc _).alloc _).drew) ⟨wr.heap.size + 1, 0, none⟩ 1 1 [.string (m.extract 0 k ++ { data := #[48] } ++ a.extract (k + 1) a.size)] (by rfl) rfl (by exact new_cells (wr.alloc _) #[.string (m.extract 0 k ++ { data := #[48] } ++ a.extract (k + 1) a.size)] 9 _ (World.size_alloc _ _).symm) (by intro u hu; simp at hu; subst hu; rfl) (by decide) (by unfold maxLen; omega) (by omega) (by simp; omega) _ rfl ?_; intro g cap w3 hown3 hgrow3 hat3 hlt3) | (go_simp; go_at_call 83; refine (turned_any _ _).mono ?_; rintro e w2 ⟨rfl, rfl⟩; dsimp only))
          go_wp2
          go_roundw
          case rel =>
            have R := rcut_step HL.out HKA.out HMM.out HC.out HT.out HO.out hbl hown3 hgrow3
            exact ⟨k + 1, by omega, by go_num, R.1, R.2⟩
          case measure => simp [intOf]; omega
        · rw [EB.out] at eb
          have hB : ((b[k]'hltb).toNat : Int) = 120 := by rw [eb]; rfl
          have HC : Hid (Cu.cond a.data.toList b.data.toList k = false) := by
            show _ = _; unfold Cu.cond; rw [Cu.fixAt_lt HKA.out, Cu.fixAt_lt HKB.out, EA.out, EB.out, ea, eb]; rfl
          clear ea eb
          go_wp2
          go_roundw
          case rel =>
            refine ⟨k + 1, by omega, by go_num, ?_, hbl⟩
            rw [Cu.cutTo, HC.out, if_neg (by simp), List.append_nil]
            exact HO.out
          case measure => simp [intOf]; omega
    · have hkn : k = a.size := by omega
      subst hkn
      go_wp2
      go_ret
      exact ⟨u7, rfl, HO.out, hbl⟩

set_option maxRecDepth 8000 in
set_option maxHeartbeats 400000 in
theorem rcut_apart (a b : ByteArray) (w : World) (ha : Cu.right a.data.toList = true) (hb : Cu.right b.data.toList = true) (hs : a.size = b.size) (hm : Cu.meetsB a.data.toList b.data.toList = false) :
    Calls Tryz.prog 62 #[.string a, .string b] w fun e w' => ∃ v, e = .returned v ∧ w'.ownsRow w.heap.size 9 1 v 1 [.string a] ∧ Below w.heap.size w w' := by
  have HA : Hid (Cu.right a.data.toList = true) := ha
  have HB : Hid (Cu.right b.data.toList = true) := hb
  have HM : Hid (Cu.meetsB a.data.toList b.data.toList = false) := hm
  have HE : Hid (a.size = b.size) := hs
  clear ha hb hs hm
  go_enter Tryz.func62, Tryz.ntmps62
  go_wp2_with fail
  refine (both_any a b _ HA.out HB.out HE.out ByteArray.empty false (Or.inr ⟨rfl, HM.out, rfl⟩)).mono ?_
  rintro e w1 ⟨rfl, hb1⟩
  go_wp2
  go_ret
  refine ⟨_, rfl, World.ownsRow_lit w1 #[.string a] 1 hb1.size (by unfold maxLen; omega) rfl, hb1.alloc hb1.size _⟩
end Go.Proofs.YtipmlcdnfaobiaaGreat.Cub
namespace Go.Proofs.YtipmlcdnfaobiaaGreat.Cub
open Go.RowKit

theorem below2 {w w1 w2 : World} (h1 : Below w.heap.size w w1) (h2 : Below w1.heap.size w1 w2) : Below w.heap.size w w2 := h1.trans (h2.mono h1.size)

end Go.Proofs.YtipmlcdnfaobiaaGreat.Cub
namespace Go.Proofs.YtipmlcdnfaobiaaGreat.Cub
open Go.RowKit

theorem two_len {a b : ByteArray} (ha : a.size ≤ maxLen) (hb : b.size ≤ maxLen) : ∀ i, i < 2 → (two a b i).size ≤ maxLen := by
  intro i hi
  have : i = 0 ∨ i = 1 := by omega
  rcases this with rfl | rfl
  · exact ha
  · exact hb

theorem wrong2_any (a b : ByteArray) (w : World) (ha : a.size ≤ maxLen) (hb : b.size ≤ maxLen) :
    Calls Tryz.prog 61 #[.slice (some ⟨w.heap.size, 0, none⟩) 2 2] (w.alloc (.cells #[.string a, .string b] 9)) fun e w' => e = .returned (.int .i64 (err2 a b)) ∧ Below w.heap.size w w' := by
  have hB : Below w.heap.size w (w.alloc (.cells #[.string a, .string b] 9)) := (Below.refl _ _).alloc (Nat.le_refl _) _
  by_cases hra : Cu.right a.data.toList = true
  · by_cases hrb : Cu.right b.data.toList = true
    · by_cases hs : a.size = b.size
      · have he : err2 a b = 0 := err2_of hra hrb hs
        rw [he]
        refine (wrong_rest (two a b) 2 w.heap.size 0 2 _ (two_cells w a b) (by omega) (by omega) (two_len ha hb) (two_right hra hrb) 0 (Or.inl ⟨rfl, two_size hs⟩)).mono ?_
        rintro e w' ⟨rfl, hb'⟩
        exact ⟨rfl, hB.trans (hb'.mono (by simp))⟩
      · have he : err2 a b = 11 := by unfold err2; rw [if_pos ⟨hra, hrb⟩, if_neg hs]
        rw [he]
        refine (wrong_rest (two a b) 2 w.heap.size 0 2 _ (two_cells w a b) (by omega) (by omega) (two_len ha hb) (two_right hra hrb) 11 (Or.inr ⟨rfl, 1, by omega, fun e => hs e.symm⟩)).mono ?_
        rintro e w' ⟨rfl, hb'⟩
        exact ⟨rfl, hB.trans (hb'.mono (by simp))⟩
    · have he : err2 a b = 10 := by unfold err2; rw [if_neg (fun h => hrb h.2)]
      rw [he]
      refine (wrong_cube (two a b) 2 w.heap.size 0 2 _ (two_cells w a b) (by omega) (two_len ha hb) 1 (by omega) ?_ (Bool.eq_false_iff.2 hrb)).mono ?_
      · intro i hi
        have e : i = 0 := by omega
        subst e; exact hra
      · rintro e w' ⟨rfl, hb'⟩
        exact ⟨rfl, hB.trans (hb'.mono (by simp))⟩
  · have he : err2 a b = 10 := by unfold err2; rw [if_neg (fun h => hra h.1)]
    rw [he]
    refine (wrong_cube (two a b) 2 w.heap.size 0 2 _ (two_cells w a b) (by omega) (two_len ha hb) 0 (by omega) (fun i hi => by omega) (Bool.eq_false_iff.2 hra)).mono ?_
    rintro e w' ⟨rfl, hb'⟩
    exact ⟨rfl, hB.trans (hb'.mono (by simp))⟩

/-- A row of texts that the call itself has made. -/
theorem row_own {w : World} {base : Nat} {v : Value} {ls : List (List UInt8)} (h : w.ownsRow base 9 1 v ls.length (svs ls)) : Row w v ls := by
  have h0 := h
  rcases h.2 with ⟨e, e2⟩ | ⟨g, cap, cur, e, _, hg, _⟩
  · have : ls = [] := List.length_eq_zero_iff.1 e2
    subst this
    exact ⟨none, 0, e, Or.inl rfl⟩
  · subst e
    refine ⟨_, cap, rfl, Or.inr ⟨g, 0, rfl, lt_of_block hg, fun i hi => ?_⟩⟩
    rw [Nat.zero_add, h0.cellAt i (by omega)]
    simp [svs, List.getElem?_eq_getElem hi]

end Go.Proofs.YtipmlcdnfaobiaaGreat.Cub
namespace Go.Proofs.YtipmlcdnfaobiaaGreat.Cub
open Go.RowKit

theorem run_indexByte (s : ByteArray) (c : Int) (w : World) : (callFunc 144 #[.string s, .int .u8 c]).run Tryz.prog w = .ok (.value (.int .i64 (Lib.indexByte s.data.toList c.toNat.toUInt8))) w := by
  rw [run_callFunc_extern Tryz.func144 (by kernel_rfl) (by kernel_rfl) (by kernel_rfl) (e := Extern.BytealgIndexByte.indexByte) (by kernel_rfl), Lib.run_indexByteString]
  rfl

set_option maxRecDepth 8000 in
set_option maxHeartbeats 400000 in
theorem Contains_x (s : ByteArray) (w : World) :
    Calls Tryz.prog 75 #[.string s, .string ⟨#[120]⟩] w fun e w' => e = .returned (.bool (s.data.toList.contains 120)) ∧ w' = w := by
  rw [Lib.contains_iff_indexByte]
  have hx : ∀ w : World, (callFunc 144 #[.string s, .int .u8 (((⟨#[120]⟩ : ByteArray)[0]'(by decide)).toNat : Int)]).run Tryz.prog w = .ok (.value (.int .i64 (Lib.indexByte s.data.toList 120))) w := run_indexByte s 120
  by_cases he : [120] = s.toList
  · have hb : ([120] == s.toList) = true := by rw [← he]; rfl
    have hd : decide (0 ≤ Lib.indexByte s.data.toList 120) = true := by
      rw [ByteArray.toList_eq] at he
      rw [← he]; rfl
    rw [hd]
    clear he hd
    go_enter Tryz.func75, Tryz.ntmps75
    go_wp2
    go_ret
    exact ⟨rfl, rfl⟩
  · have hb : ([120] == s.toList) = false := beq_eq_false_iff_ne.2 he
    clear he
    go_enter Tryz.func75, Tryz.ntmps75
    go_wp2
    go_ret
    exact ⟨rfl, rfl⟩
end Go.Proofs.YtipmlcdnfaobiaaGreat.Cub
