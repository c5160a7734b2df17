/-
  answer: a function of others, told.
-/
import Derived.Test.YtffngpdngjfcfaaBFind
import Derived.LaidEqlPtr
namespace Go.Proofs.Ytffngpdngjfcfaa
open Go.RowKit Go.Maps
open Bd (Nd)

theorem Try.infoTable : ∃ j, Try.prog.info? 51 = some j := Option.isSome_iff_exists.1 (by kernel_rfl)
theorem made_ok {w : World} {y : Lay} {s : St} (hT : Tab w y s) : Calls Try.prog 57 #[.pointer (some ⟨y.tb, 0, none⟩)] w fun e w' => e = .returned (.bool true) ∧ w' = w := by
  have c7 : w.cell? ⟨y.tb, 7, none⟩ = some (.pointer (some ⟨y.tb, 0, none⟩)) := by rw [cell_at hT.cells]; rfl
  obtain ⟨j, hj⟩ := Try.infoTable
  have hsame : (binOp .eql 23 (.pointer (some ⟨y.tb, 0, none⟩)) (.pointer (some ⟨y.tb, 0, none⟩))).run Try.prog w = .ok (.bool true) w := run_eql_ptr_same w _ Try.underlying23 hj
  clear hj
  go_enter Try.func57, Try.ntmps57
  go_wp2
  go_ret
  exact ⟨rfl, rfl⟩

theorem ans_idle (p q r s : Value) (w : World) :
    CallsD Try.prog 80 #[p, q, r, s] .returning w fun e u' w' => e = .returned (.tuple #[]) ∧ u' = .returning ∧ w' = w := by
  refine callsD_of_wpS Try.func80 rfl fun c₀ cs hu => ?_
  apply wpS_seq
  apply wpS_region
  simp [wpOpsS, go_sem, recoverD, hu, Try.ntmps80, Exit.thenS]
  refine wpS_cond (t := false) (by simp [Act.eval, Array.replicate]) ?_
  simp only [Bool.false_eq_true, if_false]
  refine wpS_of_wp (wp_skip ?_)
  cases c₀
  simp_all [bodyPostS, results, Try.results80]

/-- What a call that tells a ref leaves: f is the function that it stands for. -/
structure Told {bits M : Nat} (A : Bd.Fam bits M) (w : World) (y : Lay) (s : St) (w' : World) (r : Nat) (f : Bd.Fn) : Prop where
  ex : ∃ N t y' m, Tab w' y' { s with L := s.L ++ N, roots := s.roots ++ t } ∧ Bd.Within A (s.L ++ N) ∧ ({ s with L := s.L ++ N, roots := s.roots ++ t } : St).node? r = some m ∧ m < (s.L ++ N).length + 2 ∧ Bd.den (s.L ++ N) m = f ∧ Moves noX w y w' y' ∧ Adds s t r

/-- The nodes' slice, as how is handed it. -/
def NodesAt (w : World) (g : Nat) (ns : List Nat) : Prop := ∃ cs, w.heap[g]? = some (.cells cs 3 (0, 0)) ∧ cs.size = ns.length ∧ ∀ (i m : Nat), ns[i]? = some m → cs[i]? = some (i6 m)

/-- The blocks that answer lays. -/
structure AnsAt (w : World) (B : Nat) (p : Value) : Prop where
  b0 : w.heap[B]? = some (.cells #[p] 23 (0, 0))
  b1 : w.heap[B + 1]? = some (.cells #[.int .i64 0] 25 (0, 0))
  b2 : w.heap[B + 1 + 1]? = some (.cells #[.int .i64 0] 30 (0, 0))

theorem AnsAt.moves {w w' : World} {B : Nat} {p : Value} (h : AnsAt w B p) {y y' : Lay} (hm : Moves noX w y w' y') (hy : ∀ k, y.own k → k < B ∨ B + 3 ≤ k) : AnsAt w' B p := by
  have l0 := block_lt h.b0
  have l1 := block_lt h.b1
  have l2 := block_lt h.b2
  refine ⟨(hm.block _ l0 (fun ho => ?_) (fun h => h)).trans h.b0, (hm.block _ l1 (fun ho => ?_) (fun h => h)).trans h.b1, (hm.block _ l2 (fun ho => ?_) (fun h => h)).trans h.b2⟩
  · rcases hy _ ho with h | h <;> omega
  · rcases hy _ ho with h | h <;> omega
  · rcases hy _ ho with h | h <;> omega

/-- What follows how. -/
theorem ans_rest {M : Nat} {w : World} {y : Lay} {s : St} (A : Bd.Fam s.bits M) (hT : Tab w y s) (h2 : 2 ≤ s.first) (hsm : s.roots.length + 1 ≤ 1073741824) (hlim : s.bits * M ≤ s.limit) {W w2 : World} (hBW : Below w.heap.size w W) (hA : AnsAt W w.heap.size (.pointer (some ⟨y.tb, 0, none⟩))) {r : Nat} {f : Bd.Fn} (hG : Grew noX A W y s w2 r f) :
    w2.cell? ⟨w.heap.size, 0, none⟩ = some (.pointer (some ⟨y.tb, 0, none⟩)) ∧ w2.cell? ⟨y.tb, 6, none⟩ = some (.int .i64 s.limit) ∧ (∃ ao len cap, w2.cell? ⟨y.tb, 3, none⟩ = some (.slice ao len cap) ∧ len ≤ s.limit) ∧
    Hid (∀ n, Calls Try.prog 82 #[.pointer (some ⟨y.tb, 0, none⟩), i6 r] (w2.drewN n) fun e w3 => ∃ ref, e = .returned (i6 ref) ∧ w3.cell? ⟨w.heap.size + 1, 0, none⟩ = some (.int .i64 0) ∧ w3.frozen? ⟨w.heap.size + 1, 0, none⟩ = false ∧ w3.cell? ⟨w.heap.size + 1 + 1, 0, none⟩ = some (.int .i64 0) ∧ w3.frozen? ⟨w.heap.size + 1 + 1, 0, none⟩ = false ∧
      Hid (Told A w y s ((w3.setCell ⟨w.heap.size + 1, 0, none⟩ (i6 ref)).setCell ⟨w.heap.size + 1 + 1, 0, none⟩ (.int .i64 0)) ref f)) := by
  obtain ⟨N, y2, t2, wi2, hr2, d2, m2⟩ := hG.ex
  have hy : ∀ k, y.own k → k < w.heap.size ∨ w.heap.size + 3 ≤ k := fun k hk => Or.inl (hT.lt hk)
  have l2 := block_lt hA.b2
  have hA2 := hA.moves m2 hy
  have hy2 := own_between (_w0 := w) m2 (by omega) hy
  have hfew := wi2.few t2.okay
  have hmt := m2.tb
  refine ⟨by rw [cell_at hA2.b0]; rfl, ?_, ?_, ?_⟩
  · rw [← hmt, cell_at t2.cells]; rfl
  · obtain ⟨ao, cap, hls⟩ := t2.list_slice
    refine ⟨ao, (s.L ++ N).length, cap, ?_, by omega⟩
    rw [← hmt, t2.cell3, hls]
  · intro n
    have hbn : Below w2.heap.size w2 (w2.drewN n) := belowN (Below.refl _ _) n
    rw [← hmt]
    refine (tell_any (t2.below hbn) h2 r hr2 hsm).mono ?_
    rintro e w3 ⟨ref, rfl, ⟨y3, t, t3, m3, hnd, htl⟩⟩
    have hA3 : AnsAt w3 w.heap.size (.pointer (some ⟨y.tb, 0, none⟩)) := AnsAt.moves (w := w2.drewN n) ⟨hA2.b0, hA2.b1, hA2.b2⟩ m3 hy2
    have hy3 := own_between (_w0 := w) m3 (by show w.heap.size + 3 ≤ w2.heap.size; have := m2.size; omega) hy2
    refine ⟨ref, rfl, by rw [cell_at hA3.b1]; rfl, not_frozen hA3.b1, by rw [cell_at hA3.b2]; rfl, not_frozen hA3.b2, ?_⟩
    have hset : ∀ k, k ≠ w.heap.size + 1 → k ≠ w.heap.size + 1 + 1 → ((w3.setCell ⟨w.heap.size + 1, 0, none⟩ (i6 ref)).setCell ⟨w.heap.size + 1 + 1, 0, none⟩ (.int .i64 0)).heap[k]? = w3.heap[k]? := by
      intro k h1 h2
      rw [set_other _ (show k ≠ w.heap.size + 1 + 1 from h2), set_other _ (show k ≠ w.heap.size + 1 from h1)]
    have t4 := t3.same (w' := (w3.setCell ⟨w.heap.size + 1, 0, none⟩ (i6 ref)).setCell ⟨w.heap.size + 1 + 1, 0, none⟩ (.int .i64 0)) fun k hk => by
      rcases hy3 k hk with h | h
      · exact hset k (by omega) (by omega)
      · exact hset k (by omega) (by omega)
    refine ⟨N, t, y3, r, t4, wi2, hnd, hr2, d2, ?_, htl⟩
    have mA := ((moves_below (X := noX) y hBW).trans m2).trans ((moves_below (X := noX) y2 hbn).trans m3)
    refine ⟨mA.tb, mA.own, mA.os, mA.tape, mA.output, by have := mA.size; simpa using this, ?_⟩
    intro k hk hn hx
    rw [hset k (by omega) (by omega)]
    exact mA.block k hk hn hx

set_option maxHeartbeats 4000000 in
theorem answer_ok {M : Nat} {w : World} {y : Lay} {s : St} (A : Bd.Fam s.bits M) (hT : Tab w y s) (h2 : 2 ≤ s.first) (hsm : s.roots.length + 1 ≤ 1073741824) (hlim : s.bits * M ≤ s.limit) (v : Value) (ls ns : List Nat) (hR : RefsAt w v ls) (hn : ls.length ≤ 1000000) (hN : NodesOf s ls ns)
    (fh : FuncId) (hent : ∀ args w, (callFunc fh args).run Try.prog w = .ok (.enter fh args) w) (caps : Array Value) (f : Bd.Fn)
    (hhow : ∀ w1 g, Below w.heap.size w w1 → NodesAt w1 g ns → w.heap.size ≤ g → Calls Try.prog fh (#[.slice (some ⟨g, 0, none⟩) ls.length ls.length] ++ caps) w1 fun e w2 => ∃ r, e = .returned (i6 r) ∧ Grew noX A w1 y s w2 r f) :
    Calls Try.prog 45 #[.pointer (some ⟨y.tb, 0, none⟩), v, .func (.func fh) #[] caps] w fun e w' => ∃ r, e = .returned (.tuple #[i6 r, .int .i64 0]) ∧ Told A w y s w' r f := by
  have hmf : ∀ (fn : Fn) (first cap : Array Value) (w : World), (Instr.makeFunc fn first cap).run Try.prog w = .ok (.func fn first cap) w := fun _ _ _ _ => rfl
  have HT := keep hT
  have HR := keep hR
  have HN := keep hN
  have HH := keep hhow
  have ltb := hT.lt y.own_tb
  clear hT hR hN hhow
  go_enter_defers Try.func45, Try.ntmps45
  have B0 : Hid (Below w.heap.size w (((w.alloc (.cells #[.pointer (some ⟨y.tb, 0, none⟩)] 23)).alloc (.cells #[.int .i64 0] 25)).alloc (.cells #[.int .i64 0] 30))) :=
    (((Below.refl _ _).alloc (Nat.le_refl _) _).alloc (by simp) _).alloc (by simp <;> omega) _
  obtain ⟨lao, lcap, hls⟩ := HT.out.list_slice
  have A0 : Hid (AnsAt (((w.alloc (.cells #[.pointer (some ⟨y.tb, 0, none⟩)] 23)).alloc (.cells #[.int .i64 0] 25)).alloc (.cells #[.int .i64 0] 30)) w.heap.size (.pointer (some ⟨y.tb, 0, none⟩))) := by
    have e1 : (w.alloc (.cells #[.pointer (some ⟨y.tb, 0, none⟩)] 23)).heap.size = w.heap.size + 1 := by simp
    have e2 : ((w.alloc (.cells #[.pointer (some ⟨y.tb, 0, none⟩)] 23)).alloc (.cells #[.int .i64 0] 25)).heap.size = w.heap.size + 1 + 1 := by simp
    refine ⟨?_, ?_, ?_⟩
    · rw [heap_alloc_old _ _ (by omega), heap_alloc_old _ _ (by omega)]; exact heap_alloc_new w _
    · rw [heap_alloc_old _ _ (by omega), ← e1]; exact heap_alloc_new _ _
    · rw [← e2]; exact heap_alloc_new _ _
  have LAY1 : Hid (∀ w1, Below (((w.alloc (.cells #[.pointer (some ⟨y.tb, 0, none⟩)] 23)).alloc (.cells #[.int .i64 0] 25)).alloc (.cells #[.int .i64 0] 30)).heap.size (((w.alloc (.cells #[.pointer (some ⟨y.tb, 0, none⟩)] 23)).alloc (.cells #[.int .i64 0] 25)).alloc (.cells #[.int .i64 0] 30)) w1 →
      w1.cell? ⟨w.heap.size, 0, none⟩ = some (.pointer (some ⟨y.tb, 0, none⟩)) ∧ w1.cell? ⟨y.tb, 3, none⟩ = some (.slice lao s.L.length lcap)) := by
    intro w1 hb1
    refine ⟨?_, ?_⟩
    · rw [hb1.cell (by show w.heap.size < _; simp <;> omega), cell_at A0.out.b0]; rfl
    · have h := (HT.out.below B0.out).below hb1
      rw [h.cell3, hls]
  have HF := keep (find_ok (HT.out.below B0.out) h2 v ls ns (HR.out.below B0.out) hn HN.out)
  have e0 : (((w.alloc (.cells #[.pointer (some ⟨y.tb, 0, none⟩)] 23)).alloc (.cells #[.int .i64 0] 25)).alloc (.cells #[.int .i64 0] 30)).heap.size = w.heap.size + 1 + 1 + 1 := by simp
  have HOW : Hid (∀ w1, Below (((w.alloc (.cells #[.pointer (some ⟨y.tb, 0, none⟩)] 23)).alloc (.cells #[.int .i64 0] 25)).alloc (.cells #[.int .i64 0] 30)).heap.size (((w.alloc (.cells #[.pointer (some ⟨y.tb, 0, none⟩)] 23)).alloc (.cells #[.int .i64 0] 25)).alloc (.cells #[.int .i64 0] 30)) w1 →
      (∃ cs, w1.heap[w.heap.size + 1 + 1 + 1]? = some (.cells cs 3 (0, 0)) ∧ cs.size = ls.length ∧ ∀ (i m : Nat), ns[i]? = some m → cs[i]? = some (i6 m)) → ∀ o, Calls Try.prog fh (#[.slice (some ⟨w.heap.size + 1 + 1 + 1, 0, none⟩) ls.length ls.length] ++ caps) (w1.alloc o) fun e w2 => ∃ r, e = .returned (i6 r) ∧
        w2.cell? ⟨w.heap.size, 0, none⟩ = some (.pointer (some ⟨y.tb, 0, none⟩)) ∧ w2.cell? ⟨y.tb, 6, none⟩ = some (.int .i64 s.limit) ∧ (∃ ao len cap, w2.cell? ⟨y.tb, 3, none⟩ = some (.slice ao len cap) ∧ len ≤ s.limit) ∧
    Hid (∀ n, Calls Try.prog 82 #[.pointer (some ⟨y.tb, 0, none⟩), i6 r] (w2.drewN n) fun e w3 => ∃ ref, e = .returned (i6 ref) ∧ w3.cell? ⟨w.heap.size + 1, 0, none⟩ = some (.int .i64 0) ∧ w3.frozen? ⟨w.heap.size + 1, 0, none⟩ = false ∧ w3.cell? ⟨w.heap.size + 1 + 1, 0, none⟩ = some (.int .i64 0) ∧ w3.frozen? ⟨w.heap.size + 1 + 1, 0, none⟩ = false ∧
      Hid (Told A w y s ((w3.setCell ⟨w.heap.size + 1, 0, none⟩ (i6 ref)).setCell ⟨w.heap.size + 1 + 1, 0, none⟩ (.int .i64 0)) ref f))) := by
    intro w1 hb1 hcs o
    have hb01 : Below w.heap.size w w1 := B0.out.trans (hb1.mono B0.out.size)
    have hbo : Below w.heap.size w (w1.alloc o) := hb01.alloc hb01.size o
    obtain ⟨cs, c1, c2, c3⟩ := hcs
    have hold : ∀ k, k < w1.heap.size → (w1.alloc o).heap[k]? = w1.heap[k]? := fun k hk => heap_alloc_old w1 o hk
    have hAA : AnsAt (w1.alloc o) w.heap.size (.pointer (some ⟨y.tb, 0, none⟩)) := by
      have z := hb1.size
      rw [e0] at z
      refine ⟨?_, ?_, ?_⟩
      · rw [hold _ (by omega), hb1.block _ (by rw [e0]; omega)]; exact A0.out.b0
      · rw [hold _ (by omega), hb1.block _ (by rw [e0]; omega)]; exact A0.out.b1
      · rw [hold _ (by omega), hb1.block _ (by rw [e0]; omega)]; exact A0.out.b2
    refine (HH.out (w1.alloc o) (w.heap.size + 1 + 1 + 1) hbo ⟨cs, (hold _ (block_lt c1)).trans c1, by rw [c2, HN.out.1], c3⟩ (by omega)).mono ?_
    rintro e w2 ⟨r, rfl, hG⟩
    exact ⟨r, rfl, ans_rest A HT.out h2 hsm hlim hbo hAA hG⟩
  go_wp2_with (first | (go_at_call 57; refine (made_ok (HT.out.below B0.out)).mono ?_; rintro e w' ⟨rfl, rfl⟩) | (go_at_call 77; refine HF.out.mono ?_; rintro e w1 ⟨rfl, hcs, hb1⟩; obtain ⟨k0, k3⟩ := LAY1.out w1 hb1; rw [e0] at hcs; have HW1 := keep (HOW.out w1 hb1 hcs); clear hcs hb1) | (refine (HW1.out _).mono ?_; rintro e w2 ⟨r, rfl, p0, p6, ⟨ao2, len2, cap2, p3, hll⟩, HTELL⟩))
  have hnd : decide (s.limit < len2) = false := by simp; omega
  have hndI : ¬ ((s.limit : Int) < (len2 : Int)) := by omega
  go_quiet (fail)
  go_wp2_with (first | (go_at_call 82; refine (HTELL.out _).mono ?_; rintro e w3 ⟨ref, rfl, u1, u2, u3, u4, HTOLD⟩))
  refine leaves_cons (f := 80) (args := #[.pointer (some ⟨w.heap.size, 0, none⟩), .pointer (some ⟨w1.heap.size, 0, none⟩), .pointer (some ⟨w.heap.size + 1, 0, none⟩), .pointer (some ⟨w.heap.size + 1 + 1, 0, none⟩)]) (by simp) (by simp [go_sem]) ?_
  refine (ans_idle _ _ _ _ _).mono ?_
  rintro e u' w'' ⟨rfl, rfl, rfl⟩
  refine ⟨.tuple #[i6 ref, .int .i64 0], ?_, ref, rfl, HTOLD.out⟩
  simp [results, Try.results45, go_sem, u1, u3]
end Go.Proofs.Ytffngpdngjfcfaa
