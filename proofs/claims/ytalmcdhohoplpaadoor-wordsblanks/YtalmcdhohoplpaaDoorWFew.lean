/-
  few: the first texts of a slice that came in, each cut off.
-/
import Derived.Test.YtalmcdhohoplpaaDoorWLLines
import Derived.SliceStrings
namespace Go.Proofs.YtalmcdhohoplpaaDoor
open Go.RowKit

theorem Tryd.infoString : (Tryd.prog.info? 9).map (fun i => (i.zero, i.size, i.bytes)) = some (some (.string ⟨#[]⟩), 1, 16) := by kernel_rfl

/-- What is known of a slice of texts that came in. -/
def Came (w : World) (a0 : Option Addr) (len cap : Nat) (ss : List ByteArray) : Prop :=
  (a0 = none ∧ len = 0 ∧ cap = 0 ∧ ss = []) ∨ ∃ a, a0 = some a ∧ len ≤ cap ∧ cap ≤ maxLen ∧ ss.length = cap ∧ (∀ i, i < ss.length → w.cell? (a.add i) = some (.string (ss.getD i ByteArray.empty))) ∧ ∀ s ∈ ss, s.size ≤ maxLen
theorem addr_add (g o i : Nat) : (⟨g, o, none⟩ : Addr).add i = ⟨g, o + i, none⟩ := by
  unfold Addr.add; split <;> simp_all
theorem addr_of {w : World} {a : Addr} {v : Value} (h : w.cell? (a.add 0) = some v) : (∃ g o, a = ⟨g, o, none⟩) ∧ a.block < w.heap.size := by
  have e : a.add 0 = a := by unfold Addr.add; simp
  rw [e] at h
  obtain ⟨g, o, sp⟩ := a
  have hlt : g < w.heap.size := by
    unfold World.cell? at h
    cases hh : w.heap[g]? with
    | none => simp [hh] at h
    | some x => exact lt_of_block hh
  refine ⟨?_, hlt⟩
  cases sp with
  | none => exact ⟨g, o, rfl⟩
  | some s =>
    exfalso
    unfold World.cell? at h
    simp only [Option.isSome_some, if_true] at h
    split at h <;> cases h

/-- The first k texts, each cut off. -/
def fewT (ss : List ByteArray) (k : Nat) : List (List UInt8) := (ss.take k).map cutT
def svs (ls : List (List UInt8)) : List Value := ls.map fun l => .string (tx l)
theorem fewT_len {ss : List ByteArray} {k : Nat} (h : k ≤ ss.length) : (fewT ss k).length = k := by simp [fewT]; omega
theorem fewT_snoc {ss : List ByteArray} {k : Nat} (h : k < ss.length) : fewT ss (k + 1) = fewT ss k ++ [cutT (ss.getD k ByteArray.empty)] := by
  unfold fewT
  rw [List.take_succ_eq_append_getElem h, List.map_append, List.getD_eq_getElem?_getD, List.getElem?_eq_getElem h]
  rfl
theorem fewT_short (ss : List ByteArray) (k : Nat) : ∀ l ∈ fewT ss k, l.length ≤ 4000 := by
  intro l hl
  obtain ⟨s, _, rfl⟩ := List.mem_map.1 hl
  exact cutT_len s
theorem own_txs {w : World} {B : Nat} {v : Value} {ls : List (List UInt8)} (h : w.ownsRow B 9 1 v ls.length (svs ls)) : Txs w v ls := by
  by_cases h0 : 0 < ls.length
  · obtain ⟨g, cap, rfl, hg, hc⟩ := own_some h h0
    refine ⟨_, cap, rfl, Or.inr ⟨g, 0, rfl, hg, fun i hi => ?_⟩⟩
    rw [Nat.zero_add]
    refine hc i _ ?_
    simp [svs, List.getD_eq_getElem?_getD, List.getElem?_eq_getElem hi]
  · have : ls = [] := List.length_eq_zero_iff.1 (by omega)
    subst this
    obtain ⟨ao, cap, rfl⟩ := own_form h
    exact Txs.nil _ _ _

set_option maxHeartbeats 1000000 in
theorem few_none (ao : Option Addr) (cap : Nat) (w : World) : Calls Tryd.prog 19 #[.slice ao 0 cap] w fun e w' => e = .returned (.slice none 0 0) ∧ Below w.heap.size w w' := by
  go_enter Tryd.func19, Tryd.ntmps19
  go_wp2
  refine wp_loop_rounds 1 ?_
  rw [rounds_succ]
  go_wp2
  go_ret
  exact ⟨rfl, Below.refl _ _⟩

set_option maxRecDepth 4000 in
set_option maxHeartbeats 2000000 in
theorem few_some (g o len cap : Nat) (ss : List ByteArray) (w : World) (hg : g < w.heap.size) (hl : len ≤ ss.length) (hm : len ≤ maxLen) (hc : ∀ i, i < ss.length → w.cell? ⟨g, o + i, none⟩ = some (.string (ss.getD i ByteArray.empty))) :
    Calls Tryd.prog 19 #[.slice (some ⟨g, o, none⟩) len cap] w fun e w' => ∃ v, e = .returned v ∧ Hid (w'.ownsRow w.heap.size 9 1 v (fewT ss (min len 60)).length (svs (fewT ss (min len 60)))) ∧ Below w.heap.size w w' := by
  have HC := hid hc
  clear hc
  unfold maxLen at hm
  obtain ⟨i0, hi, hz0, hz1, hz2⟩ := info_parts Tryd.infoString
  have HI := hid hi
  have HZ0 := hid hz0
  have HZ1 := hid hz1
  have HZ2 := hid hz2
  clear hi hz0 hz1 hz2
  go_enter Tryd.func19, Tryd.ntmps19
  go_wp2
  go_loopw [3, 4] (fun v i wr => ∃ k : Nat, k ≤ len ∧ k ≤ 60 ∧ i = .int .i64 k ∧ Hid (wr.ownsRow w.heap.size 9 1 v k (svs (fewT ss k))) ∧ Hid (Below w.heap.size w wr)) (fun _ i _ => len - (intOf i).toNat)
  case atStart => exact ⟨0, Nat.zero_le _, Nat.zero_le _, rfl, World.ownsRow_nil _ _ _ _, Below.refl _ _⟩
  case round =>
    obtain ⟨k, hk, hk6, rfl, HO, HB⟩ := hrel
    obtain ⟨a1, cap1, rfl⟩ := own_form HO.out
    have hbs := HB.out.size
    by_cases hlt : k < len ∧ k < 60
    · obtain ⟨hlt1, hlt2⟩ := hlt
      have hlI : (k : Int) < (len : Int) := by omega
      have hlI2 : (k : Int) < 60 := by omega
      have hkI : (0 : Int) ≤ (k : Int) := by omega
      have ck : wr.cell? ⟨g, o + k, none⟩ = some (.string (ss.getD k ByteArray.empty)) := by rw [HB.out.cell (by exact hg)]; exact HC.out k (by omega)
      obtain ⟨x, hx⟩ : ∃ x, x = ss.getD k ByteArray.empty := ⟨_, rfl⟩
      rw [← hx] at ck
      have HF := hid (show fewT ss (k + 1) = fewT ss k ++ [cutT x] by rw [hx]; exact fewT_snoc (by omega))
      clear hx
      go_wp2_with (first | (go_at_call 10; refine (cut_any x _).mono ?_; rintro e w' ⟨rfl, rfl⟩) | (at_builtin; refine wpList_append_own_at _ rfl _ _ 36 rfl w.heap.size 9 i0 (.string ⟨#[]⟩) 1 16 Tryd.underlying36 HI.out HZ0.out HZ1.out HZ2.out rfl (by decide) (.slice a1 k cap1) k (svs (fewT ss k)) rfl (HO.out.alloc _) ⟨World.heap _ |>.size, 0, none⟩ 1 1 [.string (tx (cutT x))] rfl rfl (new_cells _ #[.string (tx (cutT x))] _ _ rfl) ?c2 ?c3 ?c4 ?c5 ?_))
      case c2 => simp [Value.oneCell']
      case c3 => unfold maxLen; omega
      case c4 => omega
      case c5 => simp; omega
      intro v' w5 hown5 hgrow5 _ _
      obtain ⟨a5, cap5, rfl⟩ := own_form hown5
      have HO5 := hid (show w5.ownsRow w.heap.size 9 1 (.slice a5 (k + 1) cap5) (k + 1) (svs (fewT ss (k + 1))) by
        rw [HF.out]; simp only [svs, List.map_append, List.map_cons, List.map_nil]; exact hown5)
      have HB5 := hid (show Below w.heap.size w w5 from (HB.out.alloc hbs _).grown hgrow5 (by simp; omega) (fun i hi => (HO.out.lt i hi).1))
      clear hown5 hgrow5
      go_wp2
      go_roundw
      case rel => exact ⟨k + 1, by omega, by omega, by go_num, HO5, HB5⟩
      case measure => simp [intOf]; omega
    · have hmin : k = min len 60 := by omega
      have hg : (k < len ∧ ¬ (k : Int) < 60) ∨ ¬ k < len := by omega
      have HMN := hid hmin
      clear hmin hlt
      rcases hg with ⟨h1, h2⟩ | h1
      all_goals
        go_wp2
        go_ret
        refine ⟨_, rfl, ?_, HB.out⟩
        show World.ownsRow _ _ _ _ _ _ _
        rw [← HMN.out, fewT_len (by omega)]
        exact HO.out

/-- How many texts are looked at. -/
def fewL (ss : List ByteArray) (len : Nat) : List (List UInt8) := fewT ss (min len 60)
theorem fewL_len (ss : List ByteArray) (len : Nat) : (fewL ss len).length ≤ 60 := by unfold fewL fewT; simp; omega
theorem few_any (a0 : Option Addr) (len cap : Nat) (ss : List ByteArray) (w : World) (hv : Came w a0 len cap ss) :
    Calls Tryd.prog 19 #[.slice a0 len cap] w fun e w' => ∃ v, e = .returned v ∧ Hid (Txs w' v (fewL ss len)) ∧ Below w.heap.size w w' := by
  rcases hv with ⟨rfl, rfl, rfl, rfl⟩ | ⟨a, rfl, hl, hm, hz, hc, _⟩
  · refine (few_none none 0 w).mono ?_
    rintro e w' ⟨rfl, hb⟩
    exact ⟨_, rfl, Txs.nil _ _ _, hb⟩
  · by_cases h0 : len = 0
    · subst h0
      refine (few_none (some a) cap w).mono ?_
      rintro e w' ⟨rfl, hb⟩
      refine ⟨_, rfl, ?_, hb⟩
      have : fewL ss 0 = [] := by simp [fewL, fewT]
      rw [this]; exact Txs.nil _ _ _
    · obtain ⟨⟨g, o, rfl⟩, hb⟩ := addr_of (hc 0 (by omega))
      refine (few_some g o len cap ss w hb (by omega) (by omega) (fun i hi => by have := hc i hi; rw [addr_add] at this; exact this)).mono ?_
      rintro e w' ⟨v, rfl, ho, hb'⟩
      exact ⟨v, rfl, own_txs ho.out, hb'⟩
end Go.Proofs.YtalmcdhohoplpaaDoor
