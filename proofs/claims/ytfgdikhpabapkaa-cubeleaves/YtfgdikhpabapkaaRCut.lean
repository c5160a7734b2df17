/-
  The document's own cut of two cubes.
-/
import Derived.Test.YtfgdikhpabapkaaRBoth
import Derived.Deep.AppendLies
import Derived.Deep.RegionLaw
namespace Go.Proofs.Ytfgdikhpabapkaa
open Go.RowKit
attribute [local go_sem ↓] Go.wp_at_zero Go.wp_at_succ

theorem hid {p : Prop} (h : p) : Hid p := h

/-- Texts as cells. -/
def svs (ls : List (List UInt8)) : List Value := ls.map sv
theorem svs_snoc (ls : List (List UInt8)) (l : List UInt8) : svs (ls ++ [l]) = svs ls ++ [sv l] := by simp [svs]

/-- A text of one byte out of a row of one byte. -/
theorem conv_one (c : Int) (w : World) : (convert 67 9 (.slice (some ⟨w.heap.size, 0, none⟩) 1 1)).run Try.prog (w.alloc (.cells #[.int .u8 c] 5)) = .ok (.string ⟨#[UInt8.ofNat c.toNat]⟩) (w.alloc (.cells #[.int .u8 c] 5)) := by
  have := run_convert_bytes_arg (P := Try.prog) (w.alloc (.cells #[.int .u8 c] 5)) 67 5 Try.underlying67 Try.underlying5 w.heap.size 0 1 1 [c] rfl (by
    intro i hi
    have e : i = 0 := by omega
    subst e
    have h := new_0 w (.cells #[.int .u8 c] 5)
    unfold World.cell?
    rw [h]; rfl) 9 Try.underlying9
  rw [this]; rfl

theorem part_bytes {a b m : ByteArray} {k : Nat} {t : UInt8} (hm : m = ⟨(Cu.meetL a.data.toList b.data.toList).toArray⟩) (ht : Cu.turned b.data.toList k = t) :
    (m.extract 0 k ++ ⟨#[t]⟩ ++ a.extract (k + 1) a.size) = ⟨(Cu.partL a.data.toList b.data.toList k).toArray⟩ := by
  subst hm ht
  apply ByteArray.ext
  apply Array.ext'
  simp only [ByteArray.data_append, ByteArray.data_extract, Array.toList_append, Array.toList_extract, Cu.partL]
  simp only [List.extract_eq_take_drop, List.drop_zero, Nat.sub_zero]
  congr 1
  apply List.take_of_length_le
  simp only [List.length_drop, len_data]
  omega

theorem rcut_step {a b m : ByteArray} {w wr w3 : World} {o1 o2 : Obj} {k : Nat} {p v : Value} {t : UInt8} (_hl : a.data.toList.length = b.data.toList.length) (_hk : k < a.data.toList.length)
    (hm : m = ⟨(Cu.meetL a.data.toList b.data.toList).toArray⟩) (hc : Cu.cond a.data.toList b.data.toList k = true) (ht : Cu.turned b.data.toList k = t)
    (ho : wr.ownsRow w.heap.size 9 1 p (Cu.cutTo a.data.toList b.data.toList k).length (svs (Cu.cutTo a.data.toList b.data.toList k))) (hbl : Below w.heap.size w wr)
    (hown : w3.ownsRow w.heap.size 9 1 v ((Cu.cutTo a.data.toList b.data.toList k).length + 1) (svs (Cu.cutTo a.data.toList b.data.toList k) ++ [.string (m.extract 0 k ++ ⟨#[t]⟩ ++ a.extract (k + 1) a.size)]))
    (hg : ((wr.alloc o1).alloc o2).drew.grownBy w3 p.ownBlock) :
    w3.ownsRow w.heap.size 9 1 v (Cu.cutTo a.data.toList b.data.toList (k + 1)).length (svs (Cu.cutTo a.data.toList b.data.toList (k + 1))) ∧ Below w.heap.size w w3 := by
  refine ⟨?_, ?_⟩
  · rw [Cu.cutTo, hc, if_pos rfl, svs_snoc, List.length_append, List.length_singleton]
    rw [part_bytes hm ht] at hown
    exact hown
  · have hs := hbl.size
    exact ((hbl.alloc hs o1).alloc (by simp; omega) o2).drew.grown hg (by simp; omega) (fun q hq => (ho.lt q hq).1)

set_option maxHeartbeats 4000000 in
theorem rcut_meet (a b : ByteArray) (w : World) (ha : Cu.right a.data.toList = true) (hb : Cu.right b.data.toList = true) (hs : a.size = b.size) (hm : Cu.meetsB a.data.toList b.data.toList = true) :
    Calls Try.prog 32 #[.string a, .string b] w fun e w' => ∃ v, e = .returned v ∧ w'.ownsRow w.heap.size 9 1 v (Cu.cutTo a.data.toList b.data.toList a.size).length (svs (Cu.cutTo a.data.toList b.data.toList a.size)) ∧ Below w.heap.size w w' := by
  have HA : Hid (Cu.right a.data.toList = true) := ha
  have HB : Hid (Cu.right b.data.toList = true) := hb
  have HM : Hid (Cu.meetsB a.data.toList b.data.toList = true) := hm
  have HE : Hid (a.size = b.size) := hs
  obtain ⟨ha1, ha2, ha3⟩ := Cu.right_all ha
  have HSA : Hid (a.data.toList.all Cu.sym = true) := ha1
  have HSB : Hid (b.data.toList.all Cu.sym = true) := (Cu.right_all hb).1
  have HL : Hid (a.data.toList.length = b.data.toList.length) := hs
  have hn1 : 1 ≤ a.size := ha2
  have hn2 : a.size ≤ 128 := ha3
  have hbs : a.size ≤ b.size := Nat.le_of_eq hs
  have hbs2 : b.size ≤ a.size := Nat.le_of_eq hs.symm
  clear ha hb hm hs ha1 ha2 ha3
  obtain ⟨i0, hi, hz0, hz1, hz2⟩ := info_parts Try.infoString
  have HI : Hid _ := hi
  have HZ0 : Hid _ := hz0
  have HZ1 : Hid _ := hz1
  have HZ2 : Hid _ := hz2
  clear hi hz0 hz1 hz2
  have hcv : ∀ (c : Int) (w : World), (convert 67 9 (.slice (some ⟨w.heap.size, 0, none⟩) 1 1)).run Try.prog (w.alloc (.cells #[.int .u8 c] 5)).drew = .ok (.string ⟨#[UInt8.ofNat c.toNat]⟩) (w.alloc (.cells #[.int .u8 c] 5)).drew := fun c w => conv_one c w.drew
  go_enter Try.func32, Try.ntmps32
  go_wp2_with fail
  refine (both_any a b _ HA.out HB.out HE.out ⟨(Cu.meetL a.data.toList b.data.toList).toArray⟩ true (Or.inl ⟨rfl, HM.out, rfl⟩)).mono ?_
  rintro e w1 ⟨rfl, hb1⟩
  obtain ⟨m, hmm⟩ : ∃ m : ByteArray, m = ⟨(Cu.meetL a.data.toList b.data.toList).toArray⟩ := ⟨_, rfl⟩
  rw [← hmm]
  have HMM : Hid (m = ⟨(Cu.meetL a.data.toList b.data.toList).toArray⟩) := hmm
  have hms : m.size = a.size := by rw [hmm]; show (Cu.meetL a.data.toList b.data.toList).toArray.size = _; simp; rw [Cu.meetL_length HL.out, len_data]
  have hms1 : m.size ≤ a.size := Nat.le_of_eq hms
  have hms2 : a.size ≤ m.size := Nat.le_of_eq hms.symm
  clear hmm hms
  go_wp2
  go_loopw [7, 8] (fun p i wr => ∃ k : Nat, k ≤ a.size ∧ i = .int .i64 k ∧ wr.ownsRow w.heap.size 9 1 p (Cu.cutTo a.data.toList b.data.toList k).length (svs (Cu.cutTo a.data.toList b.data.toList k)) ∧ Below w.heap.size w wr) (fun _ i _ => a.size - (intOf i).toNat)
  case atStart => exact ⟨0, Nat.zero_le _, rfl, World.ownsRow_nil _ _ _ _, hb1⟩
  case round =>
    obtain ⟨k, hk, rfl, hown, hbl⟩ := hrel
    have HO := hid hown
    clear hown
    by_cases hlt : k < a.size
    · have hltb : k < b.size := by omega
      have hkI : (0 : Int) ≤ (k : Int) := by omega
      have hkI2 : (k : Int) < (a.size : Int) := by omega
      have hkI3 : (k : Int) < (b.size : Int) := by omega
      have hkI4 : (k : Int) ≤ (m.size : Int) := by omega
      have hkI5 : (0 : Int) ≤ (k : Int) + 1 := by omega
      have hkI6 : (k : Int) + 1 ≤ (a.size : Int) := by omega
      have HKA : Hid (k < a.data.toList.length) := by show _ < _; rw [len_data]; exact hlt
      have HKB : Hid (k < b.data.toList.length) := by show _ < _; rw [len_data]; exact hltb
      have EA : Hid (a.data.toList[k]'HKA.out = a[k]'hlt) := rfl
      have EB : Hid (b.data.toList[k]'HKB.out = b[k]'hltb) := rfl
      rcases Cu.sym_at HSA.out k HKA.out with ea | ea | ea
      · rw [EA.out] at ea
        have hA : ((a[k]'hlt).toNat : Int) = 48 := by rw [ea]; rfl
        have HC : Hid (Cu.cond a.data.toList b.data.toList k = false) := by
          show _ = _; unfold Cu.cond; rw [Cu.fixAt_lt HKA.out, EA.out, ea]; rfl
        clear ea
        go_wp2
        go_roundw
        case rel =>
          refine ⟨k + 1, by omega, by go_num, ?_, hbl⟩
          rw [Cu.cutTo, HC.out, if_neg (by simp), List.append_nil]
          exact HO.out
        case measure => simp [intOf]; omega
      · rw [EA.out] at ea
        have hA : ((a[k]'hlt).toNat : Int) = 49 := by rw [ea]; rfl
        have HC : Hid (Cu.cond a.data.toList b.data.toList k = false) := by
          show _ = _; unfold Cu.cond; rw [Cu.fixAt_lt HKA.out, EA.out, ea]; rfl
        clear ea
        go_wp2
        go_roundw
        case rel =>
          refine ⟨k + 1, by omega, by go_num, ?_, hbl⟩
          rw [Cu.cutTo, HC.out, if_neg (by simp), List.append_nil]
          exact HO.out
        case measure => simp [intOf]; omega
      · rw [EA.out] at ea
        have hA : ((a[k]'hlt).toNat : Int) = 120 := by rw [ea]; rfl
        rcases Cu.sym_at HSB.out k HKB.out with eb | eb | eb
        · rw [EB.out] at eb
          have hB : ((b[k]'hltb).toNat : Int) = 48 := by rw [eb]; rfl
          have HC : Hid (Cu.cond a.data.toList b.data.toList k = true) := by
            show _ = _; unfold Cu.cond; rw [Cu.fixAt_lt HKA.out, Cu.fixAt_lt HKB.out, EA.out, EB.out, ea, eb]; rfl
          have HT : Hid (Cu.turned b.data.toList k = 49) := by
            show _ = _; unfold Cu.turned; rw [Cu.oneAt_lt HKB.out, EB.out, eb]; rfl
          clear ea eb
          go_wp2
          have hsl : ∀ w : World, (Instr.slice 9 (.string a) (some (.int .i64 ((k : Int) + 1))) none none).run Try.prog w = .ok (.string (a.extract (k + 1) a.size)) w := fun w => by
            rw [run_slice_string_l w 9 a Try.underlying9 .i64 ((k : Int) + 1) (by omega) (by omega)]
            rfl
          have hsz1 : ¬ (9223372036854775807 < min k m.size + 1) := by omega
          have hsz2 : ¬ (9223372036854775807 < min k m.size + 1 + (a.size - (k + 1))) := by omega
          have hwr : IntKind.i64.wrap ((k : Int) + 1) = (k : Int) + 1 := by rw [IntKind.wrap_i64]; omega
          have hcl := Cu.cutTo_length a.data.toList b.data.toList k
          have hwsz := hbl.size
          go_region_law (first | (refine step_append_lies _ (by rfl) (.tmp 35) (.tmp 51) 29 (by rfl) w.heap.size 9 i0 (.string ByteArray.empty) 1 16 Try.underlying29 HI.out HZ0.out HZ1.out HZ2.out rfl (by decide) u7 (Cu.cutTo a.data.toList b.data.toList k).length (svs (Cu.cutTo a.data.toList b.data.toList k)) (by rfl) (by exact ((HO.out.alloc _).alloc _).drew) ⟨wr.heap.size + 1, 0, none⟩ 1 1 [.string (m.extract 0 k ++ { data := #[49] } ++ a.extract (k + 1) a.size)] (by rfl) rfl (by exact new_cells (wr.alloc _) #[.string (m.extract 0 k ++ { data := #[49] } ++ a.extract (k + 1) a.size)] 9 _ (World.size_alloc _ _).symm) (by intro u hu; simp at hu; subst hu; rfl) (by decide) (by unfold maxLen; omega) (by omega) (by simp; omega) _ rfl ?_; intro g cap w3 hown3 hgrow3 hat3 hlt3) | (go_simp; go_at_call 42; refine (turned_any _ _).mono ?_; rintro e w2 ⟨rfl, rfl⟩; dsimp only))
          go_wp2
          go_roundw
          case rel =>
            have R := rcut_step HL.out HKA.out HMM.out HC.out HT.out HO.out hbl hown3 hgrow3
            exact ⟨k + 1, by omega, by go_num, R.1, R.2⟩
          case measure => simp [intOf]; omega
        · rw [EB.out] at eb
          have hB : ((b[k]'hltb).toNat : Int) = 49 := by rw [eb]; rfl
          have HC : Hid (Cu.cond a.data.toList b.data.toList k = true) := by
            show _ = _; unfold Cu.cond; rw [Cu.fixAt_lt HKA.out, Cu.fixAt_lt HKB.out, EA.out, EB.out, ea, eb]; rfl
          have HT : Hid (Cu.turned b.data.toList k = 48) := by
            show _ = _; unfold Cu.turned; rw [Cu.oneAt_lt HKB.out, EB.out, eb]; rfl
          clear ea eb
          go_wp2
          have hsl : ∀ w : World, (Instr.slice 9 (.string a) (some (.int .i64 ((k : Int) + 1))) none none).run Try.prog w = .ok (.string (a.extract (k + 1) a.size)) w := fun w => by
            rw [run_slice_string_l w 9 a Try.underlying9 .i64 ((k : Int) + 1) (by omega) (by omega)]
            rfl
          have hsz1 : ¬ (9223372036854775807 < min k m.size + 1) := by omega
          have hsz2 : ¬ (9223372036854775807 < min k m.size + 1 + (a.size - (k + 1))) := by omega
          have hwr : IntKind.i64.wrap ((k : Int) + 1) = (k : Int) + 1 := by rw [IntKind.wrap_i64]; omega
          have hcl := Cu.cutTo_length a.data.toList b.data.toList k
          have hwsz := hbl.size
          go_region_law (first | (refine step_append_lies _ (by rfl) (.tmp 35) (.tmp 51) 29 (by rfl) w.heap.size 9 i0 (.string ByteArray.empty) 1 16 Try.underlying29 HI.out HZ0.out HZ1.out HZ2.out rfl (by decide) u7 (Cu.cutTo a.data.toList b.data.toList k).length (svs (Cu.cutTo a.data.toList b.data.toList k)) (by rfl) (by exact ((HO.out.alloc _).alloc _).drew) ⟨wr.heap.size + 1, 0, none⟩ 1 1 [.string (m.extract 0 k ++ { data := #[48] } ++ a.extract (k + 1) a.size)] (by rfl) rfl (by exact new_cells (wr.alloc _) #[.string (m.extract 0 k ++ { data := #[48] } ++ a.extract (k + 1) a.size)] 9 _ (World.size_alloc _ _).symm) (by intro u hu; simp at hu; subst hu; rfl) (by decide) (by unfold maxLen; omega) (by omega) (by simp; omega) _ rfl ?_; intro g cap w3 hown3 hgrow3 hat3 hlt3) | (go_simp; go_at_call 42; refine (turned_any _ _).mono ?_; rintro e w2 ⟨rfl, rfl⟩; dsimp only))
          go_wp2
          go_roundw
          case rel =>
            have R := rcut_step HL.out HKA.out HMM.out HC.out HT.out HO.out hbl hown3 hgrow3
            exact ⟨k + 1, by omega, by go_num, R.1, R.2⟩
          case measure => simp [intOf]; omega
        · rw [EB.out] at eb
          have hB : ((b[k]'hltb).toNat : Int) = 120 := by rw [eb]; rfl
          have HC : Hid (Cu.cond a.data.toList b.data.toList k = false) := by
            show _ = _; unfold Cu.cond; rw [Cu.fixAt_lt HKA.out, Cu.fixAt_lt HKB.out, EA.out, EB.out, ea, eb]; rfl
          clear ea eb
          go_wp2
          go_roundw
          case rel =>
            refine ⟨k + 1, by omega, by go_num, ?_, hbl⟩
            rw [Cu.cutTo, HC.out, if_neg (by simp), List.append_nil]
            exact HO.out
          case measure => simp [intOf]; omega
    · have hkn : k = a.size := by omega
      subst hkn
      go_wp2
      go_ret
      exact ⟨u7, rfl, HO.out, hbl⟩

set_option maxHeartbeats 400000 in
theorem rcut_apart (a b : ByteArray) (w : World) (ha : Cu.right a.data.toList = true) (hb : Cu.right b.data.toList = true) (hs : a.size = b.size) (hm : Cu.meetsB a.data.toList b.data.toList = false) :
    Calls Try.prog 32 #[.string a, .string b] w fun e w' => ∃ v, e = .returned v ∧ w'.ownsRow w.heap.size 9 1 v 1 [.string a] ∧ Below w.heap.size w w' := by
  have HA : Hid (Cu.right a.data.toList = true) := ha
  have HB : Hid (Cu.right b.data.toList = true) := hb
  have HM : Hid (Cu.meetsB a.data.toList b.data.toList = false) := hm
  have HE : Hid (a.size = b.size) := hs
  clear ha hb hs hm
  go_enter Try.func32, Try.ntmps32
  go_wp2_with fail
  refine (both_any a b _ HA.out HB.out HE.out ByteArray.empty false (Or.inr ⟨rfl, HM.out, rfl⟩)).mono ?_
  rintro e w1 ⟨rfl, hb1⟩
  go_wp2
  go_ret
  refine ⟨_, rfl, World.ownsRow_lit w1 #[.string a] 1 hb1.size (by unfold maxLen; omega) rfl, hb1.alloc hb1.size _⟩
end Go.Proofs.Ytfgdikhpabapkaa
