/-
  A reader's line: the walk.
-/
import Derived.Test.YtalmcdhohoplpaaDoorWWords
namespace Go.Proofs.YtalmcdhohoplpaaDoor
open Go.RowKit

/-- How much of the line is left. -/
def leftOf (w : World) (r : Nat) : Nat := match w.cell? ⟨r, 2, none⟩ with
  | some (.string b) => b.size
  | _ => 0
theorem Rd.left {w : World} {r n c : Nat} {s : List UInt8} (h : Rd w r n c s) : leftOf w r = s.length := by
  unfold leftOf; rw [h.cells.2.2]; exact tx_size s
theorem new_cells (w : World) (cs : Array Value) (t : TypeId) (g : Nat) (hg : g = w.heap.size) : ∀ j u, cs.toList[j]? = some u → (w.alloc (.cells cs t)).cell? ((⟨g, 0, none⟩ : Addr).add j) = some u := by
  intro j u hj
  subst hg
  have h := new_0 w (.cells cs t)
  have ea : (⟨w.heap.size, 0, none⟩ : Addr).add j = ⟨w.heap.size, j, none⟩ := by simp [Addr.add]; intro h; exact h.symm
  rw [ea]
  unfold World.cell?
  rw [h]
  simpa using hj

/-- What comes of a line: its words, or a panic at the first fault. -/
def LinePost (w : World) (r n : Nat) (l : List UInt8) (e : Ending) (w' : World) : Prop :=
  ∃ c t, Rd w' r n c t ∧ w.grownBy w' (some r) ∧ ((e = .panicked noByte ∧ (Wo.tk l 1).2 = some c) ∨
    (∃ v, e = .returned v ∧ (Wo.tk l 1).2 = none ∧ w'.ownsRow w.heap.size 45 3 v (Wo.tk l 1).1.length (flatW (Wo.wds n (Wo.tk l 1).1))))

set_option maxHeartbeats 2000000 in
theorem words_any (r n c : Nat) (s l : List UInt8) (w : World) (h : Rd w r n c s) (hl : l.length ≤ 1048576) (hn : n ≤ 4194304) :
    Calls Tryd.prog 39 #[.pointer (some ⟨r, 0, none⟩), .string (tx l)] w fun e w' => LinePost w r (n + 1) l e w' := by
  have HR := hid h
  have hlt := h.lt
  clear h
  obtain ⟨i0, hi, hz0, hz1, hz2⟩ := info_parts Tryd.infoWord
  have HI := hid hi
  have HZ0 := hid hz0
  have HZ1 := hid hz1
  have HZ2 := hid hz2
  clear hi hz0 hz1 hz2
  go_enter Tryd.func39, Tryd.ntmps39
  go_wp2_with fail
  refine (nextLine_any r n c s w HR.out hn).mono ?_
  rintro e w1 ⟨rfl, R1, hg1⟩
  have f12 := R1.free 2
  have HR1 := hid R1
  have HG1 := hid hg1
  obtain ⟨d10, d11, d12⟩ := R1.cells
  clear R1 hg1
  go_wp2_with fail
  refine (Cut_hash l _ hl).mono ?_
  rintro e w2 ⟨b2, b3, rfl, m, rfl⟩
  go_wp2_with fail
  have hcl : (Wo.code l).length ≤ l.length := (List.takeWhile_prefix _).length_le
  refine (skip_any r (n + 1) 1 (Wo.code l) _ (by exact HR1.out.setRest (Wo.code l)) (by omega)).mono ?_
  rintro e w3 ⟨rfl, R3, hg3⟩
  have I0 : WInv w r (n + 1) l (.slice none 0 0) [] 1 (Wo.code l) (w1.setCell ⟨r, 2, none⟩ (.string (tx (Wo.code l)))) := {
    rd := HR1.out.setRest _
    own := World.ownsRow_nil _ _ _ _
    grown := grown_two HG1.out (grown_cell _ _ _ _)
    old := hlt
    tok := by rw [Wo.tk_code]; simp
    clean := Wo.code_clean l
    col := by omega
    cnt := by simp; omega }
  have I1 := hid (I0.skip R3 ⟨hg3.os, hg3.tape, hg3.output, hg3.size, hg3.block⟩)
  have hh := hid (Wo.skp_head (Wo.code l))
  clear I0 R3 hg3 d10 d11 d12 f12
  go_wp2
  go_loopw [5] (fun v wr => ∃ ws c t, Hid (WInv w r (n + 1) l v ws c t wr) ∧ Hid (t = [] ∨ ∃ a u, t = a :: u ∧ Wo.blk a.toNat = false)) (fun _ wr => leftOf wr r)
  case atStart => exact ⟨_, _, _, I1, hh⟩
  case round =>
    obtain ⟨ws, c1, t, J, hq⟩ := hrel
    rcases hq.out with rfl | ⟨a, u, rfl, hb⟩
    · have e2 := J.out.rd.cells.2.2
      have hem : ((tx []).toList == []) = true := by rw [toList_nil, tx_size]; rfl
      go_wp2
      go_ret
      obtain ⟨k1, k2⟩ := J.out.done
      refine ⟨c1, [], J.out.rd, J.out.grown, Or.inr ⟨_, rfl, k1, ?_⟩⟩
      rw [k2]
      exact J.out.own
    · have e2 := J.out.rd.cells.2.2
      have hem : ((tx (a :: u)).toList == []) = false := by rw [toList_nil, tx_size]; rfl
      have hcl2 := J.out.col
      have hcn := J.out.cnt
      simp only [List.length_cons] at hcl2 hcn
      by_cases hf : Wo.fst (a :: u) = 0
      · have q := word_none r (n + 1) c1 (a :: u) wr J.out.rd (by simp only [List.length_cons]; omega) hf
        have HF := hid (J.out.fault rfl hb hf)
        clear hf
        go_wp2_with (go_at_call 48; refine q.mono ?_; rintro e w4 ⟨rfl, hb4⟩)
        exact ⟨rfl, c1, a :: u, J.out.rd.below hb4, grown_two J.out.grown (grown_of_below _ hb4), Or.inl ⟨rfl, HF.out⟩⟩
      · have q := word_some r (n + 1) c1 (a :: u) wr J.out.rd (by simp only [List.length_cons]; omega) (by omega) hf
        simp only [wdV] at q
        have HF := hid hf
        clear hf
        have hwr := J.out.grown.size
        go_wp2_with (first | (go_at_call 48; refine q.mono ?_; rintro e w4 ⟨rfl, R4, hg4⟩; have HR4 := hid R4; have HG4 := hid hg4; have OWN4 := hid (J.out.own.kept hg4 (Or.inr J.out.ne)); clear R4 hg4) | (at_builtin; refine wpList_append_own_at _ rfl _ _ 43 rfl w.heap.size 45 i0 (.agg #[.string ⟨#[]⟩, .int .i64 0, .int .i64 0]) 3 32 Tryd.underlying43 HI.out HZ0.out HZ1.out HZ2.out rfl (by decide) u5 ws.length (flatW (Wo.wds (n + 1) ws)) rfl (OWN4.out.alloc _) ⟨w4.heap.size, 0, none⟩ 1 1 (wcl ((a :: u).take (Wo.fst (a :: u)), n + 1, c1)) rfl rfl (new_cells _ #[.string (tx ((a :: u).take (Wo.fst (a :: u)))), .int .i64 ((n + 1 : Nat) : Int), .int .i64 (c1 : Int)] _ _ rfl) ?c2 ?c3 ?c4 ?c5 ?_))
        case c2 => simp [wcl, Value.oneCell']
        case c3 => unfold maxLen; omega
        case c4 => omega
        case c5 => have := HG4.out.size; simp; omega
        intro v' w5 hown5 hgrow5 _ _
        have J5 := hid (J.out.word rfl hb HF.out HR4.out HG4.out hown5 hgrow5)
        clear hown5 hgrow5
        have hc5 := J5.out.col
        go_wp2_with fail
        refine (skip_any r (n + 1) _ _ w5 J5.out.rd (by omega)).mono ?_
        rintro e w6 ⟨rfl, R6, hg6⟩
        have J6 := hid (J5.out.skip R6 hg6)
        clear R6 hg6
        go_wp2
        go_roundw
        case rel => exact ⟨_, _, _, J6, Wo.skp_head _⟩
        case measure =>
          rw [J6.out.rd.left, J.out.rd.left]
          have h1 := Wo.skp_le ((a :: u).drop (Wo.fst (a :: u)))
          have h2 := HF.out
          simp only [List.length_drop, List.length_cons] at h1 ⊢
          omega
end Go.Proofs.YtalmcdhohoplpaaDoor
