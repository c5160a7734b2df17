/-
  A text read line by line: the walk of read.
-/
import Derived.Test.YtalmcdhohoplpaaDoorWText
import Derived.Deep.Onto
namespace Go.Proofs.YtalmcdhohoplpaaDoor
open Go.RowKit

theorem Cut_line (t : List UInt8) (w : World) (hs : t.length ≤ 1048576) :
    Calls Tryd.prog 38 #[.string (tx t), .string ⟨#[10]⟩] w fun e w' => ∃ line t' more', e = .returned (.tuple #[.string (tx line), .string (tx t'), .bool more']) ∧ Hid (Wo.lns t = line :: (if more' then Wo.lns t' else [])) ∧
      (if more' then t'.length + 1 else 0) < t.length + 1 ∧ line.length ≤ t.length ∧ t'.length ≤ t.length ∧ (more' = true → t'.length + 1 ≤ t.length) ∧ ∃ n, w' = w.drewN n := by
  rcases split_at t 10 with h | ⟨p, q, rfl, h⟩
  · refine (Cut_miss t 10 w h).mono ?_
    rintro e w' ⟨rfl, hn⟩
    refine ⟨t, [], false, rfl, ?_, by simp, Nat.le_refl _, by simp, by simp, hn⟩
    exact Wo.lns_last t (fun a ha e => h a ha (UInt8.toNat.inj e))
  · refine (Cut_hit p q 10 w h (by simp only [List.length_append, List.length_cons] at hs; unfold maxLen; omega)).mono ?_
    rintro e w' ⟨rfl, hn⟩
    refine ⟨p, q, true, rfl, ?_, by simp; omega, by simp, by simp; omega, by simp, hn⟩
    exact Wo.lns_cut p q 10 (fun a ha e => h a ha (UInt8.toNat.inj e)) rfl

/-- What comes of a text. -/
def TextPost (w : World) (s : List UInt8) (e : Ending) (w' : World) : Prop :=
  Below w.heap.size w w' ∧ ((∃ n c, (Wo.rd (Wo.lns s) 1).2 = some (n, c) ∧ e = .returned (.tuple #[.slice none 0 0, .agg #[.int .i64 n, .int .i64 c], .int .i64 30])) ∨
    (∃ v, (Wo.rd (Wo.lns s) 1).2 = none ∧ e = .returned (.tuple #[v, .agg #[.int .i64 0, .int .i64 0], .int .i64 0]) ∧ LinesAt w' w.heap.size v (Wo.rd (Wo.lns s) 1).1))

theorem new_2 (w : World) (o0 o1 o2 : Obj) : (((w.alloc o0).alloc o1).alloc o2).heap[w.heap.size + 2]? = some o2 := by
  have := new_0 ((w.alloc o0).alloc o1) o2
  simp only [World.size_alloc] at this
  exact this
theorem new_3 (w : World) (o0 o1 o2 o3 : Obj) : ((((w.alloc o0).alloc o1).alloc o2).alloc o3).heap[w.heap.size + 3]? = some o3 := by
  have := new_0 (((w.alloc o0).alloc o1).alloc o2) o3
  simp only [World.size_alloc] at this
  exact this
theorem RInv.start (w : World) (s : List UInt8) : RInv w s (.slice none 0 0) [] 0 s true
    ((((w.alloc (.cells #[.slice none 0 0] 22)).alloc (.cells #[.int .i64 0, .int .i64 0] 49)).alloc (.cells #[.int .i64 0] 23)).alloc (.cells #[.int .i64 0, .int .i64 0, .string ⟨#[]⟩] 67)) := {
  l := new_old _ _ (new_old _ _ (new_old _ _ (new_0 _ _)))
  p := new_old _ _ (new_old _ _ (new_1 _ _ _))
  e := new_old _ _ (new_2 _ _ _ _)
  r := ⟨0, [], new_3 _ _ _ _ _⟩
  rows := LinesAt.nil _ _
  below := ((((Below.refl _ _).alloc (Nat.le_refl _) _).alloc (by simp) _).alloc (by simp; omega) _).alloc (by simp; omega) _
  all := by simp
  len := by omega
  lenM := fun _ => by omega
  few := by simp }

theorem RInv.finish {w : World} {s : List UInt8} {v : Value} {ls : List (List Wo.Wd)} {n : Nat} {t : List UInt8} {wr : World} (h : RInv w s v ls n t false wr) :
    TextPost w s (.returned (.tuple #[v, .agg #[.int .i64 0, .int .i64 0], .int .i64 0])) ((((wr.setCell ⟨w.heap.size, 0, none⟩ v).setCell ⟨w.heap.size + 1, 0, none⟩ (.int .i64 0)).setCell ⟨w.heap.size + 1, 1, none⟩ (.int .i64 0)).setCell ⟨w.heap.size + 1 + 1, 0, none⟩ (.int .i64 0)) := by
  have e : Wo.rd (Wo.lns s) 1 = (ls, none) := by rw [h.all]; simp [Wo.rd]
  have p1 := block_other (o := 0) v h.p (g := w.heap.size) (by omega)
  have p2 := block_set (o := 0) (.int .i64 0) p1
  have e1 := block_other (o := 1) (.int .i64 0) (block_other (o := 0) (.int .i64 0) (block_other (o := 0) v h.e (g := w.heap.size) (by omega)) (g := w.heap.size + 1) (by omega)) (g := w.heap.size + 1) (by omega)
  refine ⟨(((h.below.setCell (by simp) _).setCell (by simp) _).setCell (by simp) _).setCell (by simp; omega) _, Or.inr ⟨v, by rw [e], rfl, ?_⟩⟩
  rw [e]
  exact (((h.rows.kept h.l (by decide) (by decide) (grown_cell _ _ _ _)).kept p1 (by decide) (by decide) (grown_cell _ _ _ _)).kept p2 (by decide) (by decide) (grown_cell _ _ _ _)).kept e1 (by decide) (by decide) (grown_cell _ _ _ _)

theorem fault_cells {w : World} {N n c : Nat} {x y0 y1 z : Value} (h0 : w.heap[N]? = some (.cells #[x] 22 (0, 0))) (h1 : w.heap[N + 1]? = some (.cells #[y0, y1] 49 (0, 0))) (h2 : w.heap[N + 2]? = some (.cells #[z] 23 (0, 0))) :
    ((((w.setCell ⟨N, 0, none⟩ (.slice none 0 0)).setCell ⟨N + 1, 0, none⟩ (.int .i64 n)).setCell ⟨N + 1, 1, none⟩ (.int .i64 c)).setCell ⟨N + 2, 0, none⟩ (.int .i64 30)).cell? ⟨N, 0, none⟩ = some (.slice none 0 0) ∧
    ((((w.setCell ⟨N, 0, none⟩ (.slice none 0 0)).setCell ⟨N + 1, 0, none⟩ (.int .i64 n)).setCell ⟨N + 1, 1, none⟩ (.int .i64 c)).setCell ⟨N + 2, 0, none⟩ (.int .i64 30)).cell? ⟨N + 1, 0, none⟩ = some (.int .i64 n) ∧
    ((((w.setCell ⟨N, 0, none⟩ (.slice none 0 0)).setCell ⟨N + 1, 0, none⟩ (.int .i64 n)).setCell ⟨N + 1, 1, none⟩ (.int .i64 c)).setCell ⟨N + 2, 0, none⟩ (.int .i64 30)).cell? ⟨N + 1, 1, none⟩ = some (.int .i64 c) ∧
    ((((w.setCell ⟨N, 0, none⟩ (.slice none 0 0)).setCell ⟨N + 1, 0, none⟩ (.int .i64 n)).setCell ⟨N + 1, 1, none⟩ (.int .i64 c)).setCell ⟨N + 2, 0, none⟩ (.int .i64 30)).cell? ⟨N + 2, 0, none⟩ = some (.int .i64 30) := by
  have k0 := block_other (o := 0) (.int .i64 30) (block_other (o := 1) (.int .i64 c) (block_other (o := 0) (.int .i64 n) (block_set (o := 0) (.slice none 0 0) h0) (g := N + 1) (by omega)) (g := N + 1) (by omega)) (g := N + 2) (by omega)
  have k1 := block_other (o := 0) (.int .i64 30) (block_set (o := 1) (.int .i64 c) (block_set (o := 0) (.int .i64 n) (block_other (o := 0) (.slice none 0 0) h1 (g := N) (by omega)))) (g := N + 2) (by omega)
  have k2 := block_set (o := 0) (.int .i64 30) (block_other (o := 1) (.int .i64 c) (block_other (o := 0) (.int .i64 n) (block_other (o := 0) (.slice none 0 0) h2 (g := N) (by omega)) (g := N + 1) (by omega)) (g := N + 1) (by omega))
  exact ⟨cell_at k0, cell_at k1, cell_at k1, cell_at k2⟩

def leftM (a b : Value) : Nat := match a, b with
  | .string t, .bool true => t.size + 1
  | _, _ => 0

theorem kept_block {w w' : World} {o : Obj} {B : Nat} {e T : TypeId} {size : Nat} {v : Value} {n : Nat} {xs : List Value} {b : Nat} {cs : Array Value} {fr : Nat × Nat} (hg : (w.alloc o).grownBy w' v.ownBlock) (hown : w.ownsRow B e size v n xs) (hb : w.heap[b]? = some (.cells cs T fr)) (hTe : T ≠ e) : w'.heap[b]? = some (.cells cs T fr) := by
  have h1 := new_old w o hb
  exact (hg.block b (lt_of_block h1) (fun q => own_ne (hown.alloc o) h1 hTe q.symm)).trans h1
theorem left_less {t t' : List UInt8} {more' : Bool} (h : (if more' then t'.length + 1 else 0) < t.length + 1) : leftM (.string (tx t')) (.bool more') < leftM (.string (tx t)) (.bool true) := by
  cases more' with
  | false => show 0 < (tx t).size + 1; omega
  | true =>
    show (tx t').size + 1 < (tx t).size + 1
    rw [tx_size, tx_size]
    simpa using h

set_option maxRecDepth 4000 in
set_option maxHeartbeats 2000000 in
theorem read_any (s : List UInt8) (w : World) (hs : s.length ≤ 1048576) : Calls Tryd.prog 22 #[.string (tx s)] w fun e w' => TextPost w s e w' := by
  have hmf : ∀ (fn : Fn) (first cap : Array Value) (w : World), (Instr.makeFunc fn first cap).run Tryd.prog w = .ok (.func fn first cap) w := fun _ _ _ _ => rfl
  obtain ⟨i0, hi, hz0, hz1, hz2⟩ := info_parts Tryd.infoWords
  have HI := hid hi
  have HZ0 := hid hz0
  have HZ1 := hid hz1
  have HZ2 := hid hz2
  clear hi hz0 hz1 hz2
  go_enter_defers Tryd.func22, Tryd.ntmps22
  go_wp2
  go_loopw [0, 6] (fun a b wr => ∃ v ls n t more, a = .string (tx t) ∧ b = .bool more ∧ Hid (RInv w s v ls n t more wr)) (fun a b _ => leftM a b)
  case atStart =>
    exact ⟨.slice none 0 0, [], 0, s, true, rfl, rfl, RInv.start w s⟩
  case round =>
    obtain ⟨v, ls, n, t, more, rfl, rfl, J⟩ := hrel
    obtain ⟨ao, cap, rfl⟩ := J.out.rows.form
    have hlen := J.out.len
    have hfew := J.out.few
    have c0 := cell_at (o := 0) J.out.l
    have f0 := free_of (o := 0) J.out.l
    cases more with
    | false =>
      have c1 := cell_at (o := 0) J.out.p
      have c2 := cell_at (o := 1) J.out.p
      have c3 : wr.cell? ⟨w.heap.size + 1 + 1, 0, none⟩ = some (.int .i64 0) := cell_at (o := 0) J.out.e
      have f1 := free_of (o := 0) J.out.p
      have f2 := free_of (o := 1) J.out.p
      have f3 : wr.frozen? ⟨w.heap.size + 1 + 1, 0, none⟩ = false := free_of (o := 0) J.out.e
      go_wp2
      refine leaves_cons (f := 37) (args := #[.pointer (some ⟨w.heap.size + 3, 0, none⟩), .pointer (some ⟨w.heap.size, 0, none⟩), .pointer (some ⟨w.heap.size + 1, 0, none⟩), .pointer (some ⟨w.heap.size + 2, 0, none⟩)]) (by simp) (by simp [go_sem]) ?_
      refine (caught_not _ _ _ _ _).mono ?_
      rintro e u' w'' ⟨rfl, rfl, rfl⟩
      refine ⟨.tuple #[.slice ao ls.length cap, .agg #[.int .i64 0, .int .i64 0], .int .i64 0], ?_, ?_⟩
      · simp [results, Tryd.results22, go_sem, c0, c1, c2, c3]
      · exact J.out.finish
    | true =>
      have hlenM := J.out.lenM rfl
      obtain ⟨c, u, hR⟩ := J.out.r
      have HR := hid hR
      clear hR
      go_wp2_with fail
      refine (Cut_line t _ (by omega)).mono ?_
      rintro e w1 ⟨line, t', more', rfl, HL, hm, hll, htl, hmm, k, rfl⟩
      go_wp2_with fail
      refine (words_any (w.heap.size + 3) n c u line _ (by exact HR.out) (by omega) (by omega)).mono ?_
      rintro e w2 ⟨c2, u2, R2, hg2, hP⟩
      have HR2 := hid R2
      have HG2 := hid (show wr.grownBy w2 (some (w.heap.size + 3)) from ⟨hg2.os, hg2.tape, hg2.output, hg2.size, hg2.block⟩)
      clear R2 hg2
      rcases hP with ⟨rfl, hf⟩ | ⟨x, rfl, hno, hx⟩
      · have HF := hid (J.out.fault HL.out hf)
        clear hf
        have g0 := block_grow J.out.l HG2.out (by omega)
        have g1 := block_grow J.out.p HG2.out (by omega)
        have g2 := block_grow J.out.e HG2.out (by omega)
        have hbel := hid (below_grow J.out.below HG2.out (Nat.le_of_lt (lt_of_block J.out.l)) (by omega))
        go_wp2
        refine leaves_cons (f := 37) (args := #[.pointer (some ⟨w.heap.size + 3, 0, none⟩), .pointer (some ⟨w.heap.size, 0, none⟩), .pointer (some ⟨w.heap.size + 1, 0, none⟩), .pointer (some ⟨w.heap.size + 2, 0, none⟩)]) (by simp) (by simp [go_sem]) ?_
        refine (caught w.heap.size (n + 1) c2 u2 _ _ _ _ (.int .i64 30) [] w2 HR2.out g0 g1 g2).mono ?_
        rintro e u' w'' ⟨rfl, rfl, rfl⟩
        refine ⟨.tuple #[.slice none 0 0, .agg #[.int .i64 ((n + 1 : Nat) : Int), .int .i64 (c2 : Int)], .int .i64 30], ?_, ?_⟩
        · have q := fault_cells (n := n + 1) (c := c2) g0 g1 g2
          obtain ⟨F, hF⟩ : ∃ F, F = (((w2.setCell ⟨w.heap.size, 0, none⟩ (.slice none 0 0)).setCell ⟨w.heap.size + 1, 0, none⟩ (.int .i64 ((n + 1 : Nat) : Int))).setCell ⟨w.heap.size + 1, 1, none⟩ (.int .i64 (c2 : Int))).setCell ⟨w.heap.size + 2, 0, none⟩ (.int .i64 30) := ⟨_, rfl⟩
          rw [← hF] at q ⊢
          clear hF
          obtain ⟨q0, q1, q2, q3⟩ := q
          have q3' : F.cell? ⟨w.heap.size + 1 + 1, 0, none⟩ = some (.int .i64 30) := q3
          push_cast at q1
          simp [results, Tryd.results22, go_sem, q0, q1, q2, q3']
        · refine ⟨?_, Or.inl ⟨n + 1, c2, HF.out, rfl⟩⟩
          exact (((hbel.out.setCell (by simp) _).setCell (by simp) _).setCell (by simp) _).setCell (by simp) _
      · obtain ⟨a1, cap1, rfl⟩ := own_form hx
        have HX := hid hx
        have HNO := hid hno
        clear hx hno
        have d0 := cell_at (o := 0) (block_grow J.out.l HG2.out (by omega))
        have k0 := free_of (o := 0) (block_grow J.out.l HG2.out (by omega))
        by_cases hz : (Wo.tk line 1).1 = []
        · have hlz : ((Wo.tk line 1).1.length : Int) = 0 := by rw [hz]; rfl
          have J2 := hid (J.out.next0 HL.out HNO.out hz (by omega) (fun h => by have := hmm h; omega) HR2.out HG2.out)
          clear hz
          go_wp2
          go_roundw
          case rel => exact ⟨_, ls, n + 1, t', more', rfl, rfl, J2⟩
          case measure =>
            exact left_less hm
        · have hlz : (0 : Int) < ((Wo.tk line 1).1.length : Int) := by
            have : (Wo.tk line 1).1.length ≠ 0 := fun e => hz (List.length_eq_zero_iff.1 e)
            omega
          obtain ⟨vs, hvs, hvl, hvi⟩ : LinesAt w2 w.heap.size (.slice ao ls.length cap) ls := by obtain ⟨c0, u0, h0⟩ := J.out.r; exact J.out.rows.kept h0 (by decide) (by decide) HG2.out
          have HVS := hid hvs
          have HVL := hid hvl
          have HVI := hid hvi
          have HZ := hid hz
          clear hvs hvl hvi hz
          have hsz2 : w.heap.size ≤ w2.heap.size := Nat.le_trans J.out.below.size HG2.out.size
          go_wp2_with (first | (at_builtin; refine wpList_append_own_at _ rfl _ _ 22 rfl w.heap.size 43 i0 (.slice none 0 0) 1 24 Tryd.underlying22 HI.out HZ0.out HZ1.out HZ2.out rfl (by decide) (.slice ao ls.length cap) ls.length vs rfl (HVS.out.alloc _) ⟨w2.heap.size, 0, none⟩ 1 1 [.slice a1 (Wo.tk line 1).1.length cap1] rfl rfl (new_cells _ #[.slice a1 (Wo.tk line 1).1.length cap1] _ _ rfl) ?c2 ?c3 ?c4 ?c5 ?_))
          case c2 => simp [Value.oneCell']
          case c3 => unfold maxLen; omega
          case c4 => omega
          case c5 => simp; omega
          intro v' w3 hown3 hgrow3 _ _
          obtain ⟨a3, cap3, rfl⟩ := own_form hown3
          have J3 := hid (J.out.next1 HL.out HNO.out HZ.out (by omega) (fun h => by have := hmm h; omega) HR2.out HG2.out (HX.out.mono (show w.heap.size ≤ wr.heap.size from J.out.below.size)) HVS.out HVL.out HVI.out hown3 hgrow3)
          have hB3 := kept_block hgrow3 HVS.out (block_grow J.out.l HG2.out (by omega)) (by decide)
          have m0 := cell_at (o := 0) hB3
          have n0 := free_of (o := 0) hB3
          clear hB3
          clear hown3 hgrow3
          go_wp2
          go_roundw
          case rel => exact ⟨_, _, n + 1, t', more', rfl, rfl, J3⟩
          case measure => exact left_less hm
end Go.Proofs.YtalmcdhohoplpaaDoor
