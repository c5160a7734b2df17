/-
  text: the text of a ternary.
-/
import Derived.Test.YtenlmigdlibgeaaSpec
import Derived.Laws.BytesArg
import Derived.Deep.OwnRows
namespace Go.Proofs.Ytenlmigdlibgeaa
open Go.RowKit

theorem Try.infoByte : (Try.prog.info? 5).map (fun i => (i.zero, i.size, i.bytes)) = some (some (.int .u8 0), 1, 1) := by kernel_rfl

/-- Cells in which the first k bytes of a text lie. -/
def lieB (cs : Array Value) (k : Nat) (l : List UInt8) : Prop := ∀ j, j < k → cs[j]? = some (.int .u8 ((l.getD j 0).toNat : Int))
theorem lieB_zero (cs : Array Value) (l : List UInt8) : lieB cs 0 l := fun j hj => absurd hj (Nat.not_lt_zero j)
theorem lieB_set {cs : Array Value} {k : Nat} {l : List UInt8} (h : lieB cs k l) (hk : k < cs.size) (c : Int) (hc : c = ((l.getD k 0).toNat : Int)) : lieB (cs.setIfInBounds k (.int .u8 c)) (k + 1) l := by
  subst hc
  intro j hj
  rw [Array.getElem?_setIfInBounds]
  by_cases e : k = j
  · subst e; rw [if_pos rfl, if_pos hk]
  · rw [if_neg e]; exact h j (by omega)

def madeB (n : Nat) : Array Value := madeCells #[.int .u8 0] n
theorem madeB_size (n : Nat) : (madeB n).size = n := size_madeCells _ _

/-- The world behind the call of has: all is as it was. -/
theorem rel_text {w wr w1 : World} {o0 : Obj} {cs : Array Value} {n k : Nat} {l : List UInt8} (h0 : wr.heap[w.heap.size]? = some o0) (h1 : wr.heap[w.heap.size + 1]? = some (.cells cs 5 (0, 0)))
    (hsz : cs.size = n) (hlie : lieB cs k l) (hlt : k < n) (hbl : Below w.heap.size w wr) (hb1 : Below wr.heap.size wr w1) (c : Int) (hc : c = ((l.getD k 0).toNat : Int)) :
    (w1.setCell ⟨w.heap.size + 1, k, none⟩ (.int .u8 c)).heap[w.heap.size]? = some o0 ∧
      (∃ cs, (w1.setCell ⟨w.heap.size + 1, k, none⟩ (.int .u8 c)).heap[w.heap.size + 1]? = some (.cells cs 5 (0, 0)) ∧ cs.size = n ∧ lieB cs (k + 1) l) ∧
      Below w.heap.size w (w1.setCell ⟨w.heap.size + 1, k, none⟩ (.int .u8 c)) := by
  have hs := hbl.size
  refine ⟨?_, ⟨_, block_set _ (below_block hb1 h1 (lt_of_block h1)), by simp [hsz], lieB_set hlie (by omega) c hc⟩, (hbl.trans (hb1.mono hs)).setCell (by simp) _⟩
  rw [Below.heap_setCell _ _ _ _ (by simp)]; exact below_block hb1 h0 (lt_of_block h0)

set_option maxHeartbeats 1000000 in
theorem text_any (l : List UInt8) (n : Nat) (w : World) (hl : Cu.right l = true) (hn : l.length = n) :
    Calls Try.prog 32 #[tv l, .int .i64 (n : Int)] w fun e w' => e = .returned (.string ⟨l.toArray⟩) ∧ Below w.heap.size w w' := by
  obtain ⟨hall, hl1, hl2⟩ := Cu.right_all hl
  have HA : Hid (l.all Cu.sym = true) := hall
  have HN : Hid (l.length = n) := hn
  have hn1 : 1 ≤ n := by omega
  have hn2 : n ≤ 128 := by omega
  clear hl hall hn hl1 hl2
  have hmk := run_make_row' (P := Try.prog) 38 5 (.int .u8 0) 1 Try.underlying38 Try.infoByte rfl .i64 .i64 n (by omega) (by omega)
  rw [show madeCells #[.int .u8 0] n = madeB n from rfl] at hmk
  go_enter Try.func32, Try.ntmps32
  go_wp2
  go_loopw [11] (fun i wr => ∃ k : Nat, k ≤ n ∧ i = .int .i64 k ∧ wr.heap[w.heap.size]? = some (.cells (tc l) 69 (0, 0)) ∧
      (∃ cs, wr.heap[w.heap.size + 1]? = some (.cells cs 5 (0, 0)) ∧ cs.size = n ∧ lieB cs k l) ∧ Below w.heap.size w wr)
    (fun i _ => n - (intOf i).toNat)
  case atStart =>
    exact ⟨0, Nat.zero_le _, rfl, new_old _ _ (new_0 _ _), ⟨madeB n, new_1 _ _ _, madeB_size n, lieB_zero _ _⟩, ((Below.refl _ _).alloc (Nat.le_refl _) _).alloc (by simp) _⟩
  case round =>
    obtain ⟨k, hk, rfl, h0, ⟨cs, h1, hsz, hlie⟩, hbl⟩ := hrel
    have H0 : Hid _ := h0
    have H1 : Hid _ := h1
    have hs1 := hbl.size
    have hlt1 := lt_of_block h1
    obtain ⟨t0, t1, t2, t3⟩ := four_cell h0
    by_cases hlt : k < n
    · clear h0 h1
      have hkl : k < l.length := by rw [HN.out]; exact hlt
      have HG : Hid (l.getD k 0 = l[k]) := by show _ = _; rw [List.getD_eq_getElem?_getD, List.getElem?_eq_getElem hkl]; rfl
      have h128 : k < 128 := by omega
      rcases Cu.sym_at HA.out k hkl with hc | hc | hc
      · have hone : Cu.oneAt l k = false := by rw [Cu.oneAt_lt hkl, hc]; rfl
        have hfix : Cu.fixAt l k = true := by rw [Cu.fixAt_lt hkl, hc]; rfl
        have HC : Hid (((l.getD k 0).toNat : Int) = 48) := by show _ = _; rw [HG.out, hc]; rfl
        clear hc
        go_wp2_with fail
        refine (has_any (Cu.oneAt l) k _ h128).mono ?_
        rintro e w1 ⟨rfl, hb1⟩
        have e0 : w1.cell? ⟨w.heap.size, 0, none⟩ = _ := (hb1.cell (p := ⟨w.heap.size, 0, none⟩) (by show w.heap.size < wr.heap.size; omega)).trans t0
        have e1 : w1.cell? ⟨w.heap.size, 1, none⟩ = _ := (hb1.cell (p := ⟨w.heap.size, 1, none⟩) (by show w.heap.size < wr.heap.size; omega)).trans t1
        go_wp2_with fail
        refine (has_any (Cu.fixAt l) k _ h128).mono ?_
        rintro e w2 ⟨rfl, hb2⟩
        have hb12 := hb1.trans (hb2.mono hb1.size)
        have HB1 : Hid _ := below_block hb12 H1.out hlt1
        obtain ⟨v, hv⟩ := cells_some HB1.out (x := k) (by omega)
        have f : w2.frozen? ⟨w.heap.size + 1, k, none⟩ = false := free_of HB1.out
        go_wp2
        go_roundw
        case rel =>
          have R := rel_text H0.out H1.out hsz hlie hlt hbl hb12 48 HC.out.symm
          exact ⟨k + 1, by omega, by go_num, R.1, R.2.1, R.2.2⟩
        case measure => simp [intOf]; omega
      · have hone : Cu.oneAt l k = true := by rw [Cu.oneAt_lt hkl, hc]; rfl
        have HC : Hid (((l.getD k 0).toNat : Int) = 49) := by show _ = _; rw [HG.out, hc]; rfl
        clear hc
        go_wp2_with fail
        refine (has_any (Cu.oneAt l) k _ h128).mono ?_
        rintro e w1 ⟨rfl, hb1⟩
        have HB1 : Hid _ := below_block hb1 H1.out hlt1
        obtain ⟨v, hv⟩ := cells_some HB1.out (x := k) (by omega)
        have f : w1.frozen? ⟨w.heap.size + 1, k, none⟩ = false := free_of HB1.out
        go_wp2
        go_roundw
        case rel =>
          have R := rel_text H0.out H1.out hsz hlie hlt hbl hb1 49 HC.out.symm
          exact ⟨k + 1, by omega, by go_num, R.1, R.2.1, R.2.2⟩
        case measure => simp [intOf]; omega
      · have hone : Cu.oneAt l k = false := by rw [Cu.oneAt_lt hkl, hc]; rfl
        have hfix : Cu.fixAt l k = false := by rw [Cu.fixAt_lt hkl, hc]; rfl
        have HC : Hid (((l.getD k 0).toNat : Int) = 120) := by show _ = _; rw [HG.out, hc]; rfl
        clear hc
        go_wp2_with fail
        refine (has_any (Cu.oneAt l) k _ h128).mono ?_
        rintro e w1 ⟨rfl, hb1⟩
        have e0 : w1.cell? ⟨w.heap.size, 0, none⟩ = _ := (hb1.cell (p := ⟨w.heap.size, 0, none⟩) (by show w.heap.size < wr.heap.size; omega)).trans t0
        have e1 : w1.cell? ⟨w.heap.size, 1, none⟩ = _ := (hb1.cell (p := ⟨w.heap.size, 1, none⟩) (by show w.heap.size < wr.heap.size; omega)).trans t1
        go_wp2_with fail
        refine (has_any (Cu.fixAt l) k _ h128).mono ?_
        rintro e w2 ⟨rfl, hb2⟩
        have hb12 := hb1.trans (hb2.mono hb1.size)
        have HB1 : Hid _ := below_block hb12 H1.out hlt1
        obtain ⟨v, hv⟩ := cells_some HB1.out (x := k) (by omega)
        have f : w2.frozen? ⟨w.heap.size + 1, k, none⟩ = false := free_of HB1.out
        go_wp2
        go_roundw
        case rel =>
          have R := rel_text H0.out H1.out hsz hlie hlt hbl hb12 120 HC.out.symm
          exact ⟨k + 1, by omega, by go_num, R.1, R.2.1, R.2.2⟩
        case measure => simp [intOf]; omega
    · have hkn : k = n := by omega
      subst hkn
      have hcv := run_convert_bytes_arg (P := Try.prog) wr 38 5 Try.underlying38 Try.underlying5 (w.heap.size + 1) 0 k k (l.map fun c => (c.toNat : Int)) (by rw [List.length_map]; exact HN.out)
        (by
          intro i hi
          have hil : i < l.length := by rw [HN.out]; exact hi
          have := hlie i hi
          simp only [World.cell?, h1, Nat.zero_add]
          simp [this, hil]) 9 Try.underlying9
      have hst : strOfNums (l.map fun c => (c.toNat : Int)) = ⟨l.toArray⟩ := by
        unfold strOfNums; congr 1; simp [Function.comp_def]
      rw [hst] at hcv
      clear h0 h1
      go_wp2
      go_ret
      exact ⟨rfl, hbl⟩
end Go.Proofs.Ytenlmigdlibgeaa
