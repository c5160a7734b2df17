/-
  The least header of a cube: the program's First.
-/
import Derived.Test.YtenlmigdlibgeaaChkE
import Derived.Laws.IdiomStrings
namespace Go.Proofs.Ytenlmigdlibgeaa
open Go.RowKit

theorem free_at {w : World} {b o lo hi : Nat} {cs : Array Value} {t : TypeId} (h : w.heap[b]? = some (.cells cs t (lo, hi))) (ho : o < lo) : w.frozen? ⟨b, o, none⟩ = false := by
  simp [World.frozen?, h]; omega
theorem block_set_at {w : World} {b o : Nat} {cs : Array Value} {t : TypeId} {r : Nat × Nat} (u : Value) (h : w.heap[b]? = some (.cells cs t r)) :
    (w.setCell ⟨b, o, none⟩ u).heap[b]? = some (.cells (cs.setIfInBounds o u) t r) := by
  have hlt := lt_of_block h
  have h' : w.heap[b] = .cells cs t r := by simpa [Array.getElem?_eq_getElem hlt] using h
  show (w.heap.modify b _)[b]? = _
  rw [Array.getElem?_eq_getElem (by simpa using hlt), Array.getElem_modify_self, h']
  rfl
theorem cell_in {w : World} {b o : Nat} {cs : Array Value} {t : TypeId} {r : Nat × Nat} {v : Value} (h : w.heap[b]? = some (.cells cs t r)) (hv : cs[o]? = some v) : w.cell? ⟨b, o, none⟩ = some v := by
  simp [World.cell?, h, hv]

/-- A text whose first k bytes are turned. -/
def mixB (c : ByteArray) (k j : Nat) : Int := if j < k then ((firstB (c.data.toList.getD j 0)).toNat : Int) else ((c.data.toList.getD j 0).toNat : Int)
def Mixed (c : ByteArray) (k : Nat) (cs : Array Value) : Prop := ∀ j, j < c.size → cs[j]? = some (.int .u8 (mixB c k j))
theorem byte_at (c : ByteArray) (k : Nat) (h : k < c.size) : c.data.toList.getD k 0 = c[k] := by
  have h' : k < c.data.toList.length := by rw [len_data]; exact h
  rw [List.getD_eq_getElem?_getD, List.getElem?_eq_getElem h']; rfl
theorem mix_at (c : ByteArray) (k : Nat) (h : k < c.size) : mixB c k k = (c[k].toNat : Int) := by
  unfold mixB; rw [if_neg (by omega), byte_at c k h]
theorem mix_next (c : ByteArray) (k j : Nat) (h : j ≠ k) : mixB c (k + 1) j = mixB c k j := by
  unfold mixB
  by_cases e : j < k
  · rw [if_pos (by omega), if_pos e]
  · rw [if_neg (by omega), if_neg e]
theorem mix_last (c : ByteArray) (k : Nat) (h : k < c.size) : mixB c (k + 1) k = ((firstB c[k]).toNat : Int) := by
  unfold mixB; rw [if_pos (by omega), byte_at c k h]
theorem Mixed.keep {c : ByteArray} {k : Nat} {cs : Array Value} (h : Mixed c k cs) (hk : k < c.size) (he : firstB c[k] = c[k]) : Mixed c (k + 1) cs := by
  intro j hj
  rw [h j hj]
  by_cases e : j = k
  · subst e; rw [mix_at c j hk, mix_last c j hk, he]
  · rw [mix_next c k j e]
theorem Mixed.turn {c : ByteArray} {k : Nat} {cs : Array Value} (h : Mixed c k cs) (hk : k < c.size) (hz : c.size ≤ cs.size) (he : firstB c[k] = 48) : Mixed c (k + 1) (cs.setIfInBounds k (.int .u8 48)) := by
  intro j hj
  rw [Array.getElem?_setIfInBounds]
  by_cases e : k = j
  · subst e; rw [if_pos rfl, if_pos (by omega), mix_last c k hk, he]; rfl
  · rw [if_neg e, mix_next c k j (Ne.symm e)]; exact h j hj

theorem bytes_row (c : ByteArray) (w : World) : ∃ (cap N : Nat) (R : Array Value), R.size = N ∧ c.size ≤ N ∧ Mixed c 0 R ∧
    (convert 9 38 (.string c)).run Try.prog w = .ok (.slice (some ⟨w.heap.size, 0, none⟩) c.size cap) (w.drew.alloc (.cells R 5 (N, N + 1))) := by
  refine ⟨grownCap w c.size 0 5, _, _, rfl, ?_, ?_, run_bytes_of_string (P := Try.prog) w 9 38 5 c Try.underlying9 Try.underlying38 Try.underlying5⟩
  · simp only [bytesRow, Array.size_append, Array.size_map]
    show c.size ≤ c.size + _
    omega
  · intro j hj
    have hj' : j < c.data.size := hj
    unfold bytesRow
    rw [Array.getElem?_append_left (by simpa using hj')]
    unfold mixB
    rw [if_neg (by omega), byte_at c j hj]
    simp only [Array.getElem?_map, Array.getElem?_eq_getElem hj', Option.map_some]
    rfl

theorem sym_first {x : UInt8} (h : Cu.sym x = true) (hx : x ≠ 120) : firstB x = x := by
  rcases Cu.sym_cases h with e | e | e
  · subst e; decide
  · subst e; decide
  · exact absurd e hx

set_option maxHeartbeats 1000000 in
theorem First_any (c : ByteArray) (w : World) : Calls Try.prog 6 #[.string c] w fun e w' => e = .returned (.tuple #[.string (firstC c), .int .i64 (errC c)]) ∧ Below w.heap.size w w' := by
  have q := Check_any c w
  rcases bool_two (Cu.right c.data.toList) with h | h
  · rw [errC_bad h] at q
    rw [errC_bad h, firstC_bad h]
    clear h
    go_enter Try.func6, Try.ntmps6
    go_wp2_with fail
    refine q.mono ?_
    clear q
    rintro e w1 ⟨rfl, hb1⟩
    go_wp2
    go_ret2
    exact ⟨rfl, hb1⟩
  · rw [errC_ok h] at q
    rw [errC_ok h, firstC_ok h]
    have hsz : c.size ≤ 128 := (Cu.right_all h).2.2
    have hsz1 : 1 ≤ c.size := (Cu.right_all h).2.1
    have HA : Hid (c.data.toList.all Cu.sym = true) := (Cu.right_all h).1
    clear h
    obtain ⟨R, hR⟩ : ∃ R : ByteArray, R = ⟨(c.data.toList.map firstB).toArray⟩ := ⟨_, rfl⟩
    have HR := hid hR
    rw [← hR]
    clear hR
    go_enter Try.func6, Try.ntmps6
    go_wp2_with fail
    refine q.mono ?_
    clear q
    rintro e w1 ⟨rfl, hb1⟩
    obtain ⟨cap, N, RW, hN, hle, hmix, hcv⟩ := bytes_row c w1
    have HN := hid hN
    have HMX := hid hmix
    clear hN hmix
    have hs1 := hb1.size
    go_wp2
    go_loopw [16] (fun i wr => ∃ k : Nat, k ≤ c.size ∧ i = .int .i64 k ∧ (∃ cs, wr.heap[w1.heap.size]? = some (.cells cs 5 (N, N + 1)) ∧ cs.size = N ∧ Mixed c k cs) ∧ Below w.heap.size w wr) (fun i _ => c.size - (intOf i).toNat)
    case atStart => exact ⟨0, Nat.zero_le _, rfl, ⟨RW, new_0 _ _, HN.out, HMX.out⟩, (hb1.drew).alloc hs1 _⟩
    case round =>
      obtain ⟨k, hk, rfl, ⟨cs, hbk, hcs, hm⟩, hbl⟩ := hrel
      have HBK := hid hbk
      have HCS := hid hcs
      have HM := hid hm
      clear hbk hcs hm
      by_cases hlt : k < c.size
      · have cc : wr.cell? ⟨w1.heap.size, k, none⟩ = some (.int .u8 (c[k].toNat : Int)) := by
          rw [← mix_at c k hlt]; exact cell_in HBK.out (HM.out k hlt)
        have hkI : (0 : Int) ≤ (k : Int) := by omega
        have hkI2 : (k : Int) < (c.size : Int) := by omega
        have HSY : Hid (Cu.sym c[k] = true) := by
          have := List.all_eq_true.1 HA.out c[k] (by show c.data[k] ∈ c.data.toList; simp)
          exact this
        by_cases hx : c[k] = 120
        · have hcn : (c[k].toNat : Int) = 120 := by rw [hx]; rfl
          have HF : Hid (firstB c[k] = 48) := by show _ = _; rw [hx]; decide
          have f : wr.frozen? ⟨w1.heap.size, k, none⟩ = false := free_at HBK.out (by omega)
          clear hx
          go_wp2
          go_roundw
          case rel => exact ⟨k + 1, by omega, by go_num, ⟨_, block_set_at _ HBK.out, by rw [Array.size_setIfInBounds]; exact HCS.out, HM.out.turn hlt (by rw [HCS.out]; exact hle) HF.out⟩, hbl.setCell hs1 _⟩
          case measure => simp [intOf]; omega
        · have hcn : ((c[k].toNat : Int) == 120) = false := by
            rw [beq_eq_false_iff_ne]; intro h; exact hx (UInt8.toNat.inj (by simp; omega))
          have HF : Hid (firstB c[k] = c[k]) := sym_first HSY.out hx
          clear hx
          go_wp2
          go_roundw
          case rel => exact ⟨k + 1, by omega, by go_num, ⟨_, HBK.out, HCS.out, HM.out.keep hlt HF.out⟩, hbl⟩
          case measure => simp [intOf]; omega
      · have hkm : k = c.size := by omega
        subst hkm
        have hcv2 := run_convert_bytes_arg (P := Try.prog) wr 38 5 Try.underlying38 Try.underlying5 w1.heap.size 0 c.size cap ((c.data.toList.map firstB).map fun c => (c.toNat : Int)) (by rw [List.length_map, List.length_map]; rfl) (fun i hi => by
          have hi' : i < c.data.size := hi
          rw [Nat.zero_add, cell_in HBK.out (HM.out i hi)]
          unfold mixB
          rw [if_pos hi, byte_at c i hi]
          rw [List.getD_eq_getElem?_getD, List.getElem?_map, List.getElem?_map, Array.getElem?_toList, Array.getElem?_eq_getElem hi']
          rfl) 9 Try.underlying9
        have hst : strOfNums ((c.data.toList.map firstB).map fun c => (c.toNat : Int)) = R := by
          rw [HR.out]; unfold strOfNums; congr 1; simp [Function.comp_def]
        rw [hst] at hcv2
        clear hst
        go_wp2
        go_ret2
        exact ⟨rfl, hbl⟩
end Go.Proofs.Ytenlmigdlibgeaa
