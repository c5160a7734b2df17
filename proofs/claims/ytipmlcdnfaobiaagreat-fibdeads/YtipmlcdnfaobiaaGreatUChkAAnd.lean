/-
  The text of rules that may be.
  words.Say of up to 200 words (a rule's line has up to 135).
  The words of any rule that may be.
  What is printed is parsed as the same rules: the digits of a number, the words of a line, the lines of a text. Plain mathematics.
  What is printed is parsed as the same rules: plain mathematics of the words of a rule's line.
  Check, of any rule.
-/
import Derived.Test.YtipmlcdnfaobiaaGreatUWordsAnd
namespace Go.Proofs.YtipmlcdnfaobiaaGreat
open Go.RowKit
open Wo (Wd)

/-- A rule that may be, of headers of so many bits. -/
structure okRule (width p : Int) (m : List UInt8) (k : Int) (ps : List (List UInt8)) : Prop where
  wide : 1 ≤ width ∧ width ≤ 128
  prio : 0 ≤ p ∧ p ≤ 2147483647
  cube : Cub.Cu.right m = true
  len : (m.length : Int) = width
  act : okAct k ps
/-- OK, or an error. -/
def OkNo (ok : Prop) (w : World) (en : Ending) (w' : World) : Prop := ∃ e : Int, en = .returned (.int .i64 e) ∧ (e = 0 ↔ ok) ∧ Below w.heap.size w w'
theorem OkNo.no {ok : Prop} {w w' : World} {e : Int} (he : e ≠ 0) (h : ¬ ok) (hb : Below w.heap.size w w') : OkNo ok w (.returned (.int .i64 e)) w' := ⟨e, rfl, ⟨fun q => absurd q he, fun q => absurd q h⟩, hb⟩
theorem OkNo.yes {ok : Prop} {w w' : World} (h : ok) (hb : Below w.heap.size w w') : OkNo ok w (.returned (.int .i64 0)) w' := ⟨0, rfl, ⟨fun _ => h, fun _ => rfl⟩, hb⟩

set_option maxRecDepth 4000 in
set_option maxHeartbeats 2000000 in
theorem Check_any {w : World} {width p k : Int} {m : List UInt8} {v : Value} {ps : List (List UInt8)} (ht : Txs w v ps) (hz : ∀ p ∈ ps, p.length ≤ maxLen) :
    Calls Tryz.prog 114 #[.agg #[.int .i64 p, .string (tx m), .int .i64 k, v], .int .i64 width] w fun en w' => OkNo (okRule width p m k ps) w en w' := by
  have HT := hid ht
  obtain ⟨ao, cap, rfl, _⟩ := ht
  have HW := hid (isWidth_any width)
  by_cases hw : 1 ≤ width ∧ width ≤ 128
  case neg =>
    rw [decide_eq_false hw] at HW
    go_enter Tryz.func114, Tryz.ntmps114
    go_wp2_with fail
    refine (HW.out _).mono ?_
    rintro en w1 ⟨rfl, rfl⟩
    go_wp2
    go_ret
    exact OkNo.no (by decide) (fun q => hw q.wide) ((Below.refl _ _).alloc (Nat.le_refl _) _)
  rw [decide_eq_true hw] at HW
  by_cases hp0 : p < 0
  · go_enter Tryz.func114, Tryz.ntmps114
    go_wp2_with fail
    refine (HW.out _).mono ?_
    rintro en w1 ⟨rfl, rfl⟩
    go_wp2
    go_ret
    exact OkNo.no (by decide) (fun q => by have := q.prio; omega) ((Below.refl _ _).alloc (Nat.le_refl _) _)
  by_cases hp1 : 2147483647 < p
  · go_enter Tryz.func114, Tryz.ntmps114
    go_wp2_with fail
    refine (HW.out _).mono ?_
    rintro en w1 ⟨rfl, rfl⟩
    go_wp2
    go_ret
    exact OkNo.no (by decide) (fun q => by have := q.prio; omega) ((Below.refl _ _).alloc (Nat.le_refl _) _)
  have HCK := hid (fun w' => uCheck m w')
  by_cases hm : Cub.Cu.right m = true
  case neg =>
    rw [if_neg hm] at HCK
    have HM := hid hm
    clear hm
    go_enter Tryz.func114, Tryz.ntmps114
    go_wp2_with fail
    refine (HW.out _).mono ?_
    rintro en w1 ⟨rfl, rfl⟩
    go_wp2_with fail
    refine (HCK.out _).mono ?_
    rintro en w2 ⟨rfl, hb2⟩
    have HB2 := hid (show Below w.heap.size w w2 from ((Below.refl _ _).alloc (Nat.le_refl _) _).trans (hb2.mono (by simp)))
    clear hb2
    go_wp2
    go_ret
    exact OkNo.no (by decide) (fun q => HM.out q.cube) HB2.out
  rw [if_pos hm] at HCK
  have HM := hid hm
  have HWW := hid hw
  clear hm hw
  by_cases hl : (m.length : Int) = width
  case neg =>
    have hne : ((m.length : Int) == width) = false := by rw [beq_eq_false_iff_ne]; exact hl
    have HL := hid hl
    clear hl
    go_enter Tryz.func114, Tryz.ntmps114
    go_wp2_with fail
    refine (HW.out _).mono ?_
    rintro en w1 ⟨rfl, rfl⟩
    go_wp2_with fail
    refine (HCK.out _).mono ?_
    rintro en w2 ⟨rfl, hb2⟩
    have OB := below_block hb2 (new_0 w (rob p (tx m) k (.slice ao ps.length cap))) (by simp)
    obtain ⟨d0, d1, d2, d3, _, _, _, _⟩ := rob_cells OB
    have HB2 := hid (show Below w.heap.size w w2 from ((Below.refl _ _).alloc (Nat.le_refl _) _).trans (hb2.mono (by simp)))
    clear OB hb2
    go_wp2
    go_ret
    exact OkNo.no (by decide) (fun q => HL.out q.len) HB2.out
  subst hl
  have HMB := hid (fun (w' : World) (hb : Below w.heap.size w w') => mayBe_any (k := k) (HT.out.below hb) hz)
  have hnn : ((m.length : Int) == (m.length : Int)) = true := by simp
  clear hz
  go_enter Tryz.func114, Tryz.ntmps114
  go_wp2_with fail
  refine (HW.out _).mono ?_
  rintro en w1 ⟨rfl, rfl⟩
  go_wp2_with fail
  refine (HCK.out _).mono ?_
  rintro en w2 ⟨rfl, hb2⟩
  have OB := below_block hb2 (new_0 w (rob p (tx m) k (.slice ao ps.length cap))) (by simp)
  obtain ⟨d0, d1, d2, d3, _, _, _, _⟩ := rob_cells OB
  have HB2 := hid (show Below w.heap.size w w2 from ((Below.refl _ _).alloc (Nat.le_refl _) _).trans (hb2.mono (by simp)))
  clear OB hb2
  go_wp2_with fail
  refine (HMB.out _ HB2.out).mono ?_
  rintro en w3 ⟨b, rfl, hb, hb3⟩
  have HB3 := hid (HB2.out.trans (hb3.mono HB2.out.size))
  have HI := hid hb
  clear hb hb3
  cases b with
  | true =>
    go_wp2
    go_ret
    exact OkNo.yes ⟨HWW.out, by omega, HM.out, rfl, HI.out.1 (by first | rfl | trivial)⟩ HB3.out
  | false =>
    go_wp2
    go_ret
    exact OkNo.no (by decide) (fun q => absurd (HI.out.2 q.act) (by decide)) HB3.out
end Go.Proofs.YtipmlcdnfaobiaaGreat
namespace Go.Proofs.YtipmlcdnfaobiaaGreat
open Go.RowKit
open Wo (Wd)

namespace Ru
end Ru
end Go.Proofs.YtipmlcdnfaobiaaGreat
namespace Go.Proofs.YtipmlcdnfaobiaaGreat
open Go.RowKit
open Wo (Wd)

namespace Ru
end Ru
end Go.Proofs.YtipmlcdnfaobiaaGreat
namespace Go.Proofs.YtipmlcdnfaobiaaGreat
open Go.RowKit
open Wo (Wd)

end Go.Proofs.YtipmlcdnfaobiaaGreat
namespace Go.Proofs.YtipmlcdnfaobiaaGreat
open Go.RowKit

end Go.Proofs.YtipmlcdnfaobiaaGreat
namespace Go.Proofs.YtipmlcdnfaobiaaGreat
open Go.RowKit
open Wo (Wd)

theorem Bu.below {B b : Nat} {l : List UInt8} {w w' : World} (h : Bu B b l w) (hb : Below w.heap.size w w') : Bu B b l w' := by
  have key : ∀ {p : Value}, Lib.BuilderAt 152 5 B b p (Lib.byteCells l) w → Lib.BuilderAt 152 5 B b p (Lib.byteCells l) w' := by
    rintro p ⟨hB, v, h1, h2, h3⟩
    exact ⟨hB, v, below_block hb h1 (lt_of_block h1), h2.kept (grown_of_below none hb) (by rcases hv : v.ownBlock with _ | k; exact Or.inl rfl; exact Or.inr (by simp)), h3⟩
  exact h.elim (fun x => .inl (key x)) (fun x => .inr (key x))
end Go.Proofs.YtipmlcdnfaobiaaGreat
