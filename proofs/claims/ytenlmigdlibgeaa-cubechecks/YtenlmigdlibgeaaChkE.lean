/-
  The document's own: all headers of a width; the least header of a cube.
-/
import Derived.Test.YtenlmigdlibgeaaChk
namespace Go.Proofs.Ytenlmigdlibgeaa
open Go.RowKit

/-- A gathered row of bytes becomes a text. -/
theorem bytes_text {wr : World} {base : Nat} {p : Value} {l : List UInt8} (h : wr.ownsRow base 5 1 p l.length (bv l)) (h0 : 0 < l.length) :
    ∃ g cap, p = .slice (some ⟨g, 0, none⟩) l.length cap ∧ (convert 38 9 (.slice (some ⟨g, 0, none⟩) l.length cap)).run Try.prog wr = .ok (.string ⟨l.toArray⟩) wr := by
  have h1 := h
  rcases h.2 with ⟨_, e⟩ | ⟨g, cap, cur, e, _⟩
  · omega
  · subst e
    refine ⟨g, cap, rfl, ?_⟩
    have hcv := run_convert_bytes_arg (P := Try.prog) wr 38 5 Try.underlying38 Try.underlying5 g 0 l.length cap (l.map fun c => (c.toNat : Int)) (by rw [List.length_map]) (fun i hi => by
      rw [Nat.zero_add, h1.cellAt i (by omega)]
      simp [bv, List.getElem?_eq_getElem hi, List.getD_eq_getElem?_getD]) 9 Try.underlying9
    have hst : strOfNums (l.map fun c => (c.toNat : Int)) = ⟨l.toArray⟩ := by
      unfold strOfNums; congr 1; simp [Function.comp_def]
    rw [hst] at hcv
    exact hcv

theorem own_next {w wr w1 : World} {base k : Nat} {p p' : Value} {l : List UInt8} {o : Obj} {c : UInt8} (hb : Below base w wr) (hs : base ≤ wr.heap.size) (ho : wr.ownsRow base 5 1 p k (bv l))
    (hown : w1.ownsRow base 5 1 p' (k + 1) (bv l ++ [.int .u8 (c.toNat : Int)])) (hg : (wr.alloc o).grownBy w1 p.ownBlock) : w1.ownsRow base 5 1 p' (k + 1) (bv (l ++ [c])) ∧ Below base w w1 := by
  refine ⟨by rw [bv_snoc]; exact hown, (hb.alloc hs o).grown hg (by simp; omega) (fun q hq => (ho.lt q hq).1)⟩

theorem rep_snoc (k : Nat) (x : UInt8) : List.replicate (k + 1) x = List.replicate k x ++ [x] := List.replicate_succ'

set_option maxHeartbeats 1000000 in
theorem REvery_any (n : Int) (w : World) : Calls Try.prog 9 #[.int .i64 n] w fun e w' => e = .returned (.tuple #[.string (everyC n), .int .i64 (errE n)]) ∧ Below w.heap.size w w' := by
  by_cases h1 : n < 1
  · have e1 : everyC n = ByteArray.empty := if_neg (by omega)
    have e2 : errE n = 1 := if_neg (by omega)
    rw [e1, e2]
    clear e1 e2
    go_enter Try.func9, Try.ntmps9
    go_wp2
    go_ret2
    exact ⟨rfl, Below.refl _ _⟩
  · by_cases h2 : 128 < n
    · have e1 : everyC n = ByteArray.empty := if_neg (by omega)
      have e2 : errE n = 1 := if_neg (by omega)
      rw [e1, e2]
      clear e1 e2
      go_enter Try.func9, Try.ntmps9
      go_wp2
      go_ret2
      exact ⟨rfl, Below.refl _ _⟩
    · obtain ⟨m, rfl⟩ : ∃ m : Nat, n = (m : Int) := ⟨n.toNat, by omega⟩
      have e1 : everyC (m : Int) = ⟨(List.replicate m 120).toArray⟩ := if_pos (by omega)
      have e2 : errE (m : Int) = 0 := if_pos (by omega)
      rw [e1, e2]
      clear e1 e2
      obtain ⟨i0, hi, hz0, hz1, hz2⟩ := info_parts Try.infoByte
      have HI := hid hi
      have HZ0 := hid hz0
      have HZ1 := hid hz1
      have HZ2 := hid hz2
      clear hi hz0 hz1 hz2
      obtain ⟨R, hR⟩ : ∃ R : ByteArray, R = ⟨(List.replicate m 120).toArray⟩ := ⟨_, rfl⟩
      have HR := hid hR
      rw [← hR]
      clear hR
      go_enter Try.func9, Try.ntmps9
      go_wp2
      go_loopw [4, 5] (fun p i wr => ∃ k : Nat, k ≤ m ∧ i = .int .i64 k ∧ wr.ownsRow w.heap.size 5 1 p k (bv (List.replicate k 120)) ∧ Below w.heap.size w wr) (fun _ i _ => m - (intOf i).toNat)
      case atStart => exact ⟨0, Nat.zero_le _, rfl, World.ownsRow_nil _ _ _ _, Below.refl _ _⟩
      case round =>
        obtain ⟨k, hk, rfl, hown, hbl⟩ := hrel
        have HO := hid hown
        clear hown
        have hs := hbl.size
        by_cases hlt : k < m
        · go_wp2_with (first | (at_builtin; refine wpList_append_own_at _ rfl _ _ 38 rfl w.heap.size 5 i0 (.int .u8 0) 1 1 Try.underlying38 HI.out HZ0.out HZ1.out HZ2.out rfl (by decide) u4 k (bv (List.replicate k 120)) rfl (HO.out.alloc _) ⟨wr.heap.size, 0, none⟩ 1 1 [.int .u8 120] rfl rfl (one_news _ _ _ _ rfl) ?c2 ?c3 ?c4 ?c5 ?_))
          case c2 => intro u hu; simp at hu; subst hu; rfl
          case c3 => unfold maxLen; omega
          case c4 => omega
          case c5 => simp; omega
          intro v' w2 hown2 hgrow2 _ _
          have J := hid (own_next (c := 120) hbl hs HO.out hown2 hgrow2)
          rw [← rep_snoc] at J
          clear hown2 hgrow2
          go_wp2
          go_roundw
          case rel => exact ⟨k + 1, by omega, by go_num, J.out.1, J.out.2⟩
          case measure => simp [intOf]; omega
        · have hkm : k = m := by omega
          have hown := HO.out
          rw [hkm] at hown
          obtain ⟨g, cap, hp, hcv⟩ := bytes_text (l := List.replicate m 120) (by rw [List.length_replicate]; exact hown) (by rw [List.length_replicate]; omega)
          rw [List.length_replicate] at hp hcv
          rw [← HR.out] at hcv
          subst hp
          subst hkm
          clear hown
          go_wp2
          go_ret2
          exact ⟨rfl, hbl⟩

/-- The least header of a cube. -/
def firstB (x : UInt8) : UInt8 := if x = 49 then 49 else 48
def firstC (c : ByteArray) : ByteArray := if Cu.right c.data.toList = true then ⟨(c.data.toList.map firstB).toArray⟩ else ByteArray.empty
theorem firstC_ok {c : ByteArray} (h : Cu.right c.data.toList = true) : firstC c = ⟨(c.data.toList.map firstB).toArray⟩ := if_pos h
theorem firstC_bad {c : ByteArray} (h : Cu.right c.data.toList = false) : firstC c = ByteArray.empty := if_neg (by rw [h]; simp)
theorem first_snoc (c : ByteArray) (k : Nat) (h : k < c.size) : (c.data.toList.map firstB).take (k + 1) = (c.data.toList.map firstB).take k ++ [firstB c[k]] := by
  rw [← List.map_take, ← List.map_take, take_snoc c k h, List.map_append]; rfl

set_option maxHeartbeats 1000000 in
theorem RFirst_any (c : ByteArray) (w : World) (hc : c.size ≤ maxLen) : Calls Try.prog 7 #[.string c] w fun e w' => e = .returned (.tuple #[.string (firstC c), .int .i64 (errC c)]) ∧ Below w.heap.size w w' := by
  have q := Right_any c w hc
  rcases bool_two (Cu.right c.data.toList) with h | h
  · rw [h] at q
    rw [errC_bad h, firstC_bad h]
    clear h
    go_enter Try.func7, Try.ntmps7
    go_wp2_with fail
    refine q.mono ?_
    clear q
    rintro e w1 ⟨rfl, rfl⟩
    go_wp2
    go_ret2
    exact ⟨rfl, Below.refl _ _⟩
  · rw [h] at q
    rw [errC_ok h, firstC_ok h]
    have hsz : c.size ≤ 128 := (Cu.right_all h).2.2
    have hsz1 : 1 ≤ c.size := (Cu.right_all h).2.1
    clear h hc
    obtain ⟨i0, hi, hz0, hz1, hz2⟩ := info_parts Try.infoByte
    have HI := hid hi
    have HZ0 := hid hz0
    have HZ1 := hid hz1
    have HZ2 := hid hz2
    clear hi hz0 hz1 hz2
    obtain ⟨L, hL⟩ : ∃ L : List UInt8, L = c.data.toList.map firstB := ⟨_, rfl⟩
    have HLN : Hid (L.length = c.size) := by show _ = _; rw [hL, List.length_map]; rfl
    have HSN : Hid (∀ k (h : k < c.size), L.take (k + 1) = L.take k ++ [firstB c[k]]) := by rw [hL]; exact first_snoc c
    rw [← hL]
    clear hL
    obtain ⟨R, hR⟩ : ∃ R : ByteArray, R = ⟨L.toArray⟩ := ⟨_, rfl⟩
    have HR := hid hR
    rw [← hR]
    clear hR
    go_enter Try.func7, Try.ntmps7
    go_wp2_with fail
    refine q.mono ?_
    clear q
    rintro e w1 ⟨rfl, hw1⟩
    subst hw1
    go_wp2
    go_loopw [4, 5] (fun p i wr => ∃ k : Nat, k ≤ c.size ∧ i = .int .i64 k ∧ wr.ownsRow w1.heap.size 5 1 p k (bv (L.take k)) ∧ Below w1.heap.size w1 wr) (fun _ i _ => c.size - (intOf i).toNat)
    case atStart => exact ⟨0, Nat.zero_le _, rfl, World.ownsRow_nil _ _ _ _, Below.refl _ _⟩
    case round =>
      obtain ⟨k, hk, rfl, hown, hbl⟩ := hrel
      have HO := hid hown
      clear hown
      have hs := hbl.size
      by_cases hlt : k < c.size
      · have HS : Hid (L.take (k + 1) = L.take k ++ [firstB c[k]]) := HSN.out k hlt
        have hkI : (0 : Int) ≤ (k : Int) := by omega
        have hkI2 : (k : Int) < (c.size : Int) := by omega
        by_cases hx : c[k] = 49
        · have hcn : (c[k].toNat : Int) = 49 := by rw [hx]; rfl
          have HF : Hid (firstB c[k] = 49) := if_pos hx
          clear hx
          go_wp2_with (first | (at_builtin; refine wpList_append_own_at _ rfl _ _ 38 rfl w1.heap.size 5 i0 (.int .u8 0) 1 1 Try.underlying38 HI.out HZ0.out HZ1.out HZ2.out rfl (by decide) u4 k (bv (L.take k)) rfl (HO.out.alloc _) ⟨wr.heap.size, 0, none⟩ 1 1 [.int .u8 49] rfl rfl (one_news _ _ _ _ rfl) ?c2 ?c3 ?c4 ?c5 ?_))
          case c2 => intro u hu; simp at hu; subst hu; rfl
          case c3 => unfold maxLen; omega
          case c4 => omega
          case c5 => simp; omega
          intro v' w2 hown2 hgrow2 _ _
          have J := hid (own_next (c := 49) hbl hs HO.out hown2 hgrow2)
          rw [← HF.out, ← HS.out] at J
          clear hown2 hgrow2
          go_wp2
          go_roundw
          case rel => exact ⟨k + 1, by omega, by go_num, J.out.1, J.out.2⟩
          case measure => simp [intOf]; omega
        · have hcn : ((c[k].toNat : Int) == 49) = false := by
            rw [beq_eq_false_iff_ne]; intro h; exact hx (UInt8.toNat.inj (by simp; omega))
          have HF : Hid (firstB c[k] = 48) := if_neg hx
          clear hx
          go_wp2_with (first | (at_builtin; refine wpList_append_own_at _ rfl _ _ 38 rfl w1.heap.size 5 i0 (.int .u8 0) 1 1 Try.underlying38 HI.out HZ0.out HZ1.out HZ2.out rfl (by decide) u4 k (bv (L.take k)) rfl (HO.out.alloc _) ⟨wr.heap.size, 0, none⟩ 1 1 [.int .u8 48] rfl rfl (one_news _ _ _ _ rfl) ?c2 ?c3 ?c4 ?c5 ?_))
          case c2 => intro u hu; simp at hu; subst hu; rfl
          case c3 => unfold maxLen; omega
          case c4 => omega
          case c5 => simp; omega
          intro v' w2 hown2 hgrow2 _ _
          have J := hid (own_next (c := 48) hbl hs HO.out hown2 hgrow2)
          rw [← HF.out, ← HS.out] at J
          clear hown2 hgrow2
          go_wp2
          go_roundw
          case rel => exact ⟨k + 1, by omega, by go_num, J.out.1, J.out.2⟩
          case measure => simp [intOf]; omega
      · have hkm : k = c.size := by omega
        have hown := HO.out
        rw [hkm, List.take_of_length_le (Nat.le_of_eq HLN.out), ← HLN.out] at hown
        obtain ⟨g, cap, hp, hcv⟩ := bytes_text hown (by rw [HLN.out]; omega)
        rw [HLN.out] at hp hcv
        rw [← HR.out] at hcv
        subst hp
        subst hkm
        clear hown
        go_wp2
        go_ret2
        exact ⟨rfl, hbl⟩
end Go.Proofs.Ytenlmigdlibgeaa
