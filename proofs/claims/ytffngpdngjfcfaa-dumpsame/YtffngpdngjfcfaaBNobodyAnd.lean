/-
  inOrder: a right list.
  fits: a node that may stand at its place; inOrder: a right list.
  A function has one list.
  What shrink leaves: the nodes that one needs, each with its meaning.
  dump: Bits, made, size, put: a number behind bytes.
  A table that New did not make: each method answers ErrNil.
-/
import Derived.Test.YtffngpdngjfcfaaBFindAnd
import Derived.Test.YtffngpdngjfcfaaBVisAnd
import Derived.Deep.QuietTactic
namespace Go.Proofs.Ytffngpdngjfcfaa
open Go.RowKit Go.Maps

/-- No table, or one that New did not make. -/
def Nobody (w : World) (p : Value) : Prop := p = .pointer none ∨ ∃ g, p = .pointer (some ⟨g, 0, none⟩) ∧ w.cell? ⟨g, 7, none⟩ = some (.pointer none)
theorem Nobody.below {w w' : World} {p : Value} (h : Nobody w p) (hb : Below w.heap.size w w') : Nobody w' p := by
  rcases h with h | ⟨g, h, hc⟩
  · exact Or.inl h
  · exact Or.inr ⟨g, h, by rw [hb.cell (World.block_lt_of_cell? w _ hc)]; exact hc⟩
theorem eql_none (w : World) (a : Addr) : (binOp .eql 23 (.pointer none) (.pointer (some a))).run Try.prog w = .ok (.bool false) w := by
  have h : ∀ d : Nat, (Op.equalIn (d + 1) 23 (.pointer none) (.pointer (some a))).run Try.prog w = .ok false w := fun d => by
    simp [Op.equalIn, run_underlying Try.underlying23, sizeOf, typeInfo]
  simp only [binOp]
  simp [Op.equal, Op.maxDepth, h 9999]
theorem made_no {w : World} {p : Value} (h : Nobody w p) : Calls Try.prog 57 #[p] w fun e w' => e = .returned (.bool false) ∧ w' = w := by
  rcases h with rfl | ⟨g, rfl, c7⟩
  · go_enter Try.func57, Try.ntmps57
    go_wp2
    go_ret
    exact ⟨rfl, rfl⟩
  · have hq := eql_none w
    go_enter Try.func57, Try.ntmps57
    go_wp2
    go_ret
    exact ⟨rfl, rfl⟩

theorem Nobody.pointer {w : World} {p : Value} (h : Nobody w p) : ∃ a, p = .pointer a := by
  rcases h with h | ⟨g, h, _⟩
  · exact ⟨_, h⟩
  · exact ⟨_, h⟩

set_option maxHeartbeats 400000 in
theorem Bits_no {w : World} {p : Value} (h : Nobody w p) : Calls Try.prog 35 #[p] w fun e w' => e = .returned (.int .i64 0) ∧ w' = w := by
  have q := made_no h
  obtain ⟨a, rfl⟩ := h.pointer
  clear h
  go_enter Try.func35, Try.ntmps35
  go_wp2_with fail
  refine q.mono ?_
  rintro e w' ⟨rfl, rfl⟩
  go_wp2
  go_ret
  exact ⟨rfl, rfl⟩
set_option maxHeartbeats 400000 in
theorem Size_no {w : World} {p : Value} (h : Nobody w p) : Calls Try.prog 30 #[p] w fun e w' => e = .returned (.int .i64 0) ∧ w' = w := by
  have q := made_no h
  obtain ⟨a, rfl⟩ := h.pointer
  clear h
  go_enter Try.func30, Try.ntmps30
  go_wp2_with fail
  refine q.mono ?_
  rintro e w' ⟨rfl, rfl⟩
  go_wp2
  go_ret
  exact ⟨rfl, rfl⟩

set_option maxHeartbeats 400000 in
theorem Cube_no {w : World} {p : Value} (h : Nobody w p) (t : ByteArray) : Calls Try.prog 25 #[p, .string t] w fun e w' => ∃ r, e = .returned (.tuple #[r, .int .i64 4]) ∧ Below w.heap.size w w' := by
  have hb : Below w.heap.size w ((w.alloc (.cells #[p] 23)).alloc (.cells #[.string t] 9)) := ((Below.refl _ _).alloc (Nat.le_refl _) _).alloc (by simp) _
  have q := made_no (h.below hb)
  have HB := keep hb
  obtain ⟨a, rfl⟩ := h.pointer
  clear h hb
  go_enter Try.func25, Try.ntmps25
  go_wp2_with fail
  refine q.mono ?_
  rintro e w' ⟨rfl, rfl⟩
  go_wp2
  go_ret2
  exact ⟨_, rfl, HB.out⟩
set_option maxHeartbeats 400000 in
theorem Make_no {w : World} {p : Value} (h : Nobody w p) (ao : Option Addr) (len cap : Nat) : Calls Try.prog 28 #[p, .slice ao len cap] w fun e w' => ∃ r n, e = .returned (.tuple #[r, n, .int .i64 4]) ∧ Below w.heap.size w w' := by
  have hb : Below w.heap.size w ((w.alloc (.cells #[p] 23)).alloc (.cells #[.slice ao len cap] 46)) := ((Below.refl _ _).alloc (Nat.le_refl _) _).alloc (by simp) _
  have q := made_no (h.below hb)
  have HB := keep hb
  obtain ⟨a, rfl⟩ := h.pointer
  clear h hb
  go_enter Try.func28, Try.ntmps28
  go_wp2_with fail
  refine q.mono ?_
  rintro e w' ⟨rfl, rfl⟩
  go_wp2
  go_ret3
  exact ⟨_, _, rfl, HB.out⟩
set_option maxHeartbeats 400000 in
theorem root_no {w : World} {p : Value} (h : Nobody w p) (v : Value) : Calls Try.prog 41 #[p, v] w fun e w' => e = .returned (.tuple #[.int .i64 0, .int .i64 4]) ∧ w' = w := by
  have q := made_no h
  obtain ⟨a, rfl⟩ := h.pointer
  clear h
  go_enter Try.func41, Try.ntmps41
  go_wp2_with fail
  refine q.mono ?_
  rintro e w' ⟨rfl, rfl⟩
  go_wp2
  go_ret2
  exact ⟨rfl, rfl⟩

/-- What follows a root that none has. -/
def RootErr (w : World) (p v : Value) (err : Int) : Prop := Calls Try.prog 41 #[p, v] w fun e w' => e = .returned (.tuple #[.int .i64 0, .int .i64 err]) ∧ Below w.heap.size w w'
theorem root_err_no {w : World} {p : Value} (h : Nobody w p) (v : Value) : RootErr w p v 4 := (root_no h v).mono fun e w' ⟨h1, h2⟩ => ⟨h1, by rw [h2]; exact Below.refl _ _⟩

set_option maxHeartbeats 400000 in
theorem Has_err {w : World} {p : Value} {err : Int} (he : err = 4 ∨ err = 22) (r : Int) (h : RootErr w p (.int .i64 r) err) (t : ByteArray) : Calls Try.prog 14 #[p, .int .i64 r, .string t] w fun e w' => ∃ r, e = .returned (.tuple #[r, .int .i64 err]) ∧ Below w.heap.size w w' := by
  have hn : (err != 0) = true := by rcases he with rfl | rfl <;> rfl
  have H := keep h
  clear h
  go_enter Try.func14, Try.ntmps14
  go_wp2_with fail
  refine H.out.mono ?_
  rintro e w' ⟨rfl, hb⟩
  go_wp2
  go_ret2
  exact ⟨_, rfl, hb⟩
set_option maxHeartbeats 400000 in
theorem Any_err {w : World} {p : Value} {err : Int} (he : err = 4 ∨ err = 22) (r : Int) (h : RootErr w p (.int .i64 r) err) : Calls Try.prog 26 #[p, .int .i64 r] w fun e w' => ∃ r s, e = .returned (.tuple #[r, s, .int .i64 err]) ∧ Below w.heap.size w w' := by
  have hn : (err != 0) = true := by rcases he with rfl | rfl <;> rfl
  have H := keep h
  clear h
  go_enter Try.func26, Try.ntmps26
  go_wp2_with fail
  refine H.out.mono ?_
  rintro e w' ⟨rfl, hb⟩
  go_wp2
  go_ret3
  exact ⟨_, _, rfl, hb⟩
set_option maxHeartbeats 400000 in
theorem Cubes_err {w : World} {p : Value} {err : Int} (he : err = 4 ∨ err = 22) (r m : Int) (h : RootErr w p (.int .i64 r) err) : Calls Try.prog 24 #[p, .int .i64 r, .int .i64 m] w fun e w' => ∃ r, e = .returned (.tuple #[r, .int .i64 err]) ∧ Below w.heap.size w w' := by
  have hn : (err != 0) = true := by rcases he with rfl | rfl <;> rfl
  have H := keep h
  clear h
  go_enter Try.func24, Try.ntmps24
  go_wp2_with fail
  refine H.out.mono ?_
  rintro e w' ⟨rfl, hb⟩
  go_wp2
  go_ret2
  exact ⟨_, rfl, hb⟩
set_option maxHeartbeats 400000 in
theorem List_err {w : World} {p : Value} {err : Int} (he : err = 4 ∨ err = 22) (r : Int) (h : RootErr w p (.int .i64 r) err) : Calls Try.prog 27 #[p, .int .i64 r] w fun e w' => ∃ r, e = .returned (.tuple #[r, .int .i64 err]) ∧ Below w.heap.size w w' := by
  have hn : (err != 0) = true := by rcases he with rfl | rfl <;> rfl
  have H := keep h
  clear h
  go_enter Try.func27, Try.ntmps27
  go_wp2_with fail
  refine H.out.mono ?_
  rintro e w' ⟨rfl, hb⟩
  go_wp2
  go_ret2
  exact ⟨_, rfl, hb⟩
end Go.Proofs.Ytffngpdngjfcfaa
namespace Go.Proofs.Ytffngpdngjfcfaa
open Go.RowKit Go.Maps
open Bd (Nd)

set_option maxHeartbeats 400000 in
theorem Bits_ok {w : World} {y : Lay} {s : St} (hT : Tab w y s) : Calls Try.prog 35 #[.pointer (some ⟨y.tb, 0, none⟩)] w fun e w' => e = .returned (.int .i64 s.bits) ∧ w' = w := by
  have c5 : w.cell? ⟨y.tb, 5, none⟩ = some (.int .i64 s.bits) := by rw [cell_at hT.cells]; rfl
  have q1 := made_ok hT
  clear hT
  go_enter Try.func35, Try.ntmps35
  go_wp2_with (go_at_call 57; refine q1.mono ?_; rintro e w' ⟨rfl, rfl⟩)
  go_ret
  exact ⟨rfl, rfl⟩
set_option maxHeartbeats 400000 in
theorem dmade_ok {w : World} {y : Lay} {s : St} (hT : Tab w y s) : Calls Try.prog 37 #[.pointer (some ⟨y.tb, 0, none⟩)] w fun e w' => e = .returned (.bool true) ∧ w' = w := by
  have q1 := keep (Bits_ok hT)
  have h1 : ((0 : Int) < (s.bits : Int)) = True := eq_true (by have := hT.small.2.2.2.2; omega)
  clear hT
  go_enter Try.func37, Try.ntmps37
  go_wp2_with fail
  refine q1.out.mono ?_
  rintro e w' ⟨rfl, rfl⟩
  go_wp2
  go_ret
  exact ⟨by simp at h1; simp [h1], rfl⟩
set_option maxHeartbeats 400000 in
theorem dmade_no {w : World} {p : Value} (h : Nobody w p) : Calls Try.prog 37 #[p] w fun e w' => e = .returned (.bool false) ∧ w' = w := by
  have q1 := keep (Bits_no h)
  clear h
  go_enter Try.func37, Try.ntmps37
  go_wp2_with fail
  refine q1.out.mono ?_
  rintro e w' ⟨rfl, rfl⟩
  go_wp2
  go_ret
  exact ⟨rfl, rfl⟩
set_option maxHeartbeats 400000 in
theorem dsize_any (n : Nat) (hn : n ≤ 1073741826) (w : World) : Calls Try.prog 34 #[.int .i64 n] w fun e w' => e = .returned (.int .i64 ((if n = 0 then 6 else 5 + 9 * n : Nat) : Int)) ∧ w' = w := by
  have hnI : (n : Int) ≤ 1073741826 := by omega
  by_cases h : n = 0
  · subst h
    go_enter Try.func34, Try.ntmps34
    go_wp2
    go_ret
    exact ⟨rfl, rfl⟩
  · have hI : ((n : Int) == 0) = false := by rw [beq_eq_false_iff_ne]; omega
    have e : ((if n = 0 then 6 else 5 + 9 * n : Nat) : Int) = 5 + 9 * (n : Int) := by rw [if_neg h]; omega
    rw [e]
    clear e h
    go_enter Try.func34, Try.ntmps34
    go_wp2
    go_ret
    exact ⟨rfl, rfl⟩

/-- The bytes of a number. -/
def four (n : Nat) : List UInt8 := [UInt8.ofNat (n / 16777216), UInt8.ofNat (n / 65536), UInt8.ofNat (n / 256), UInt8.ofNat n]
def byts (l : List UInt8) : List Value := l.map fun c => Value.int .u8 (c.toNat : Int)
theorem byts_append (a b : List UInt8) : byts (a ++ b) = byts a ++ byts b := by simp [byts]

theorem Try.infoByteD : (Try.prog.info? 5).map (fun i => (i.zero, i.size, i.bytes)) = some (some (.int .u8 0), 1, 1) := by kernel_rfl

theorem four_vals (n : Nat) (hn : n ≤ 1073741826) : byts (four n) = [.int .u8 ((n : Int) / 16777216), .int .u8 ((n : Int) / 65536 % 256), .int .u8 ((n : Int) / 256 % 256), .int .u8 ((n : Int) % 256)] := by
  have e : ∀ m : Nat, ((UInt8.ofNat m).toNat : Int) = (m : Int) % 256 := by intro m; simp [UInt8.toNat_ofNat']
  have e0 : (((n / 16777216 : Nat) : Int)) % 256 = (n : Int) / 16777216 := by omega
  have e1 : (((n / 65536 : Nat) : Int)) % 256 = (n : Int) / 65536 % 256 := by omega
  have e2 : (((n / 256 : Nat) : Int)) % 256 = (n : Int) / 256 % 256 := by omega
  simp only [byts, four, List.map_cons, List.map_nil, e, e0, e1, e2]

/-- Bytes on their way, in a row of one's own that lies behind B and is not block gl. -/
structure Byt (B gl : Nat) (ob : Obj) (w0 w : World) (v : Value) (l : List UInt8) : Prop where
  row : w.ownsRow 0 5 1 v l.length (byts l)
  own : ∀ g, v.ownBlock = some g → B ≤ g ∧ g ≠ gl
  below : Below B w0 w
  size : B ≤ w.heap.size
  lst : w.heap[gl]? = some ob
theorem Byt.grow {B gl : Nat} {ob : Obj} {w0 w w' : World} {v : Value} {l m : List UInt8} {o : Obj} {g cap k : Nat} (h : Byt B gl ob w0 w v l) (hk : k = l.length + m.length) (hown : w'.ownsRow 0 5 1 (.slice (some ⟨g, 0, none⟩) k cap) k (byts l ++ byts m)) (hg : (w.alloc o).grownBy w' v.ownBlock) (hat : v.ownBlock = some g ∨ g = w.heap.size + 1) : Byt B gl ob w0 w' (.slice (some ⟨g, 0, none⟩) k cap) (l ++ m) := by
  have old : ∀ j, j < w.heap.size → some j ≠ v.ownBlock → w'.heap[j]? = w.heap[j]? := fun j hj hne => (hg.block j (by simp; omega) hne).trans (heap_alloc_old w o hj)
  have hsz : w.heap.size + 1 ≤ w'.heap.size := by have := hg.size; simpa using this
  have hB := h.size
  have hgl := block_lt h.lst
  refine ⟨by rw [byts_append, List.length_append, ← hk]; exact hown, fun g' hg' => ?_, ⟨hg.os.trans h.below.os, hg.tape.trans h.below.tape, hg.output.trans h.below.output, by have := h.below.size; omega, fun j hj => (old j (by omega) (fun e => by have := (h.own j e.symm).1; omega)).trans (h.below.block j hj)⟩, by omega, (old gl hgl (fun e => (h.own gl e.symm).2 rfl)).trans h.lst⟩
  have eg : g = g' := Option.some.inj hg'
  subst eg
  rcases hat with e | e
  · exact h.own g e
  · exact ⟨by omega, by omega⟩

set_option maxHeartbeats 1000000 in
theorem put_ok {B gl : Nat} {ob : Obj} {w0 w : World} {v : Value} {l : List UInt8} (h : Byt B gl ob w0 w v l) (n : Nat) (hn : n ≤ 1073741826) (hl : l.length ≤ 100000000000) :
    Calls Try.prog 36 #[v, .int .i64 n] w fun e w' => ∃ g cap, e = .returned (.slice (some ⟨g, 0, none⟩) (l.length + 4) cap) ∧ Byt B gl ob w0 w' (.slice (some ⟨g, 0, none⟩) (l.length + 4) cap) (l ++ four n) ∧ (v.ownBlock = some g ∨ g = w.heap.size + 1) ∧ (∀ j, j < w.heap.size → some j ≠ v.ownBlock → w'.heap[j]? = w.heap[j]?) := by
  obtain ⟨i0, hi, hz0, hz1, hz2⟩ := info_parts Try.infoByteD
  have HI := keep hi
  have HZ0 := keep hz0
  have HZ1 := keep hz1
  have HZ2 := keep hz2
  have H := keep h
  have HROW : Hid (∀ o, (w.alloc o).ownsRow 0 5 1 v l.length (byts l)) := fun o => h.row.alloc o
  have HFV := keep (four_vals n hn)
  have hnI : (n : Int) ≤ 1073741826 := by omega
  have hn0 : (0 : Int) ≤ (n : Int) := by omega
  obtain ⟨k, hk⟩ : ∃ k, k = l.length := ⟨_, rfl⟩
  have HK := keep hk
  rw [← hk] at HROW hl ⊢
  clear h hi hz0 hz1 hz2 hn hk
  go_enter Try.func36, Try.ntmps36
  go_wp2_with (first | (at_builtin; refine wpList_append_lies _ rfl (.tmp 5) (.tmp 17) 29 rfl 0 5 i0 (.int .u8 0) 1 1 Try.underlying29 HI.out HZ0.out HZ1.out HZ2.out rfl (by decide) v k (byts l) rfl (HROW.out _) ⟨w.heap.size, 0, none⟩ 4 4 [.int .u8 ((n : Int) / 16777216), .int .u8 ((n : Int) / 65536 % 256), .int .u8 ((n : Int) / 256 % 256), .int .u8 ((n : Int) % 256)] rfl rfl (World.news_of_block (heap_alloc_new w _)) (by simp [Value.oneCell']) (by decide) (by unfold maxLen; omega) (by omega) (Nat.zero_le _) (w.heap.size + 1) (by simp) ?_; intro g4 cap4 w4 hown4 hgrow4 hat4 hlt4))
  go_ret
  rw [← HFV.out] at hown4
  exact ⟨g4, cap4, rfl, H.out.grow (by rw [HK.out]; rfl) hown4 hgrow4 hat4, hat4, fun j hj hne => (hgrow4.block j (by simp; omega) hne).trans (heap_alloc_old w _ hj)⟩
end Go.Proofs.Ytffngpdngjfcfaa
namespace Go.Proofs.Ytffngpdngjfcfaa
open Bd (Nd)

/-- Each node's children lie ahead of it, or are left out. -/
def Closed (L : List Nd) (least : Nat) (acc : List Nat) : Prop := ∀ (j m : Nat), acc[j]? = some m → ∀ c, (c = (L.getD (m - 2) (0, 0, 0)).2.1 ∨ c = (L.getD (m - 2) (0, 0, 0)).2.2) → c < least ∨ ∃ i, i < j ∧ acc[i]? = some c

theorem vis_keeps (L : List Nd) (least : Nat) : ∀ k n acc m, m ∈ acc → m ∈ vis L least k n acc := by
  intro k
  induction k with
  | zero => intro n acc m hm; exact hm
  | succ k ih =>
    intro n acc m hm
    unfold vis
    split
    · exact hm
    · split
      · exact hm
      · exact List.mem_append_left _ (ih _ _ _ (ih _ _ _ hm))

theorem vis_has (L : List Nd) (least : Nat) : ∀ k n acc, n < k → n < least ∨ n ∈ vis L least k n acc := by
  intro k
  cases k with
  | zero => intro n acc h; omega
  | succ k =>
    intro n acc _
    unfold vis
    split
    · rename_i h; exact Or.inl h
    · split
      · rename_i h; exact Or.inr h
      · exact Or.inr (List.mem_append_right _ (by simp))

theorem vis_closed (L : List Nd) (least : Nat) (hL : Falls L) (h2 : 2 ≤ least) : ∀ k n acc, n < k → n < L.length + 2 → Closed L least acc → Closed L least (vis L least k n acc) := by
  intro k
  induction k with
  | zero => intro n acc h; omega
  | succ k ih =>
    intro n acc hk hn hC
    unfold vis
    split
    · exact hC
    · split
      · exact hC
      · rename_i hl hm
        have hF := hL.at (n := n) (by omega) hn
        have c1 := ih (L.getD (n - 2) (0, 0, 0)).2.1 acc (by omega) (by omega) hC
        have c2 := ih (L.getD (n - 2) (0, 0, 0)).2.2 _ (by omega) (by omega) c1
        generalize ha : vis L least k (L.getD (n - 2) (0, 0, 0)).2.2 (vis L least k (L.getD (n - 2) (0, 0, 0)).2.1 acc) = a2 at c2
        intro j m hj c hc
        rcases Nat.lt_or_ge j a2.length with h | h
        · rw [List.getElem?_append_left h] at hj
          rcases c2 j m hj c hc with h3 | ⟨i, hi, h3⟩
          · exact Or.inl h3
          · exact Or.inr ⟨i, hi, by rw [List.getElem?_append_left (by omega)]; exact h3⟩
        · rw [List.getElem?_append_right h] at hj
          have hj0 : j - a2.length = 0 := by
            have := Bd.getElem?_lt hj
            simp at this
            exact this
          rw [hj0] at hj
          simp at hj
          subst hj
          have hin : c < least ∨ c ∈ a2 := by
            rcases hc with e | e
            · rcases vis_has L least k c acc (by omega) with h3 | h3
              · exact Or.inl h3
              · right; rw [← ha]; exact vis_keeps _ _ _ _ _ _ (by rw [e] at h3 ⊢; exact h3)
            · rcases vis_has L least k c (vis L least k (L.getD (n - 2) (0, 0, 0)).2.1 acc) (by omega) with h3 | h3
              · exact Or.inl h3
              · right; rw [← ha]; rw [e] at h3 ⊢; exact h3
          rcases hin with h3 | h3
          · exact Or.inl h3
          · obtain ⟨i, hi, e⟩ := List.mem_iff_getElem.1 h3
            exact Or.inr ⟨i, by omega, by rw [List.getElem?_append_left hi, List.getElem?_eq_getElem hi, e]⟩

/-- What a node is called in the shrunken list has its meaning. -/
structure Shrunk (bits : Nat) (L : List Nd) (mark : Nat) (acc : List Nat) (j : Nat) : Prop where
  okay : Bd.Okay bits (L.take mark ++ (acc.map (rn L acc (mark + 2))).take j)
  den : ∀ i m, i < j → acc[i]? = some m → Bd.den (L.take mark ++ (acc.map (rn L acc (mark + 2))).take j) (mark + 2 + i) = Bd.den L m

theorem okay_take {bits : Nat} {L : List Nd} (h : Bd.Okay bits L) (k : Nat) : Bd.Okay bits (L.take k) := by
  refine { few := h.few, nd := h.nd.sublist (List.take_sublist _ _), fit := fun i x hx => ?_ }
  have hi := Bd.getElem?_lt hx
  rw [List.length_take] at hi
  rw [List.getElem?_take_of_lt (by omega)] at hx
  obtain ⟨a, b, c, d, e, f⟩ := h.fit i x hx
  have hb : ∀ n, n < i + 2 → Bd.bitOf (L.take k) n = Bd.bitOf L n := by
    intro n hn
    have := Bd.bitOf_old (L.take k) (L.drop k) (n := n) (by rw [List.length_take]; omega)
    rw [List.take_append_drop] at this
    exact this.symm
  exact ⟨a, b, c, d, by rw [hb _ a]; exact e, by rw [hb _ b]; exact f⟩
theorem den_take (L : List Nd) (k : Nat) {n : Nat} (hn : n < (L.take k).length + 2) : Bd.den (L.take k) n = Bd.den L n := by
  have := Bd.den_append_old (L.take k) (L.drop k) hn
  rw [List.take_append_drop] at this
  exact this.symm

theorem shrunk_all {bits : Nat} {L : List Nd} (hL : Bd.Okay bits L) {mark : Nat} (hm : mark ≤ L.length) {acc : List Nat} (hnd : acc.Nodup) (hacc : ∀ m, m ∈ acc → mark + 2 ≤ m ∧ m < L.length + 2) (hC : Closed L (mark + 2) acc) : ∀ j, j ≤ acc.length → Shrunk bits L mark acc j := by
  have hlen : (L.take mark).length = mark := by rw [List.length_take]; omega
  intro j
  induction j with
  | zero =>
    intro _
    refine ⟨by rw [List.take_zero, List.append_nil]; exact okay_take hL mark, fun i m hi => by omega⟩
  | succ j ih =>
    intro hj
    have S := ih (by omega)
    obtain ⟨m, hmj⟩ : ∃ m, acc[j]? = some m := ⟨acc[j]'(by omega), List.getElem?_eq_getElem _⟩
    have hmem : m ∈ acc := List.mem_of_getElem? hmj
    obtain ⟨b1, b2⟩ := hacc m hmem
    have hxL : L[m - 2]? = some (L.getD (m - 2) (0, 0, 0)) := (hL.falls.at (n := m) (by omega) b2).2.2
    have hml : m - 2 < L.length := by omega
    obtain ⟨f1, f2, f3, f4, f5, f6⟩ := hL.fit _ _ hxL
    have hdm : Bd.den L m = Bd.mux (L.getD (m - 2) (0, 0, 0)).1 (Bd.den L (L.getD (m - 2) (0, 0, 0)).2.1) (Bd.den L (L.getD (m - 2) (0, 0, 0)).2.2) := by
      have := Bd.den_at hL hxL
      rw [show m - 2 + 2 = m by omega] at this
      exact this
    have hMj : (acc.map (rn L acc (mark + 2)))[j]? = some (rn L acc (mark + 2) m) := by rw [List.getElem?_map, hmj]; rfl
    have eT : (acc.map (rn L acc (mark + 2))).take (j + 1) = (acc.map (rn L acc (mark + 2))).take j ++ [rn L acc (mark + 2) m] := by
      rw [List.take_add_one, hMj]; rfl
    have hTl : ((acc.map (rn L acc (mark + 2))).take j).length = j := by rw [List.length_take, List.length_map]; omega
    generalize hP : L.take mark ++ (acc.map (rn L acc (mark + 2))).take j = Q
    have hQl : Q.length = mark + j := by rw [← hP, List.length_append, hlen, hTl]
    have hold : ∀ n, n < mark + 2 → Bd.den Q n = Bd.den L n := by
      intro n hn
      rw [← hP, Bd.den_append_old _ _ (by omega)]
      exact den_take L mark (by omega)
    -- a child: its new number, and its meaning
    have child : ∀ c, (c = (L.getD (m - 2) (0, 0, 0)).2.1 ∨ c = (L.getD (m - 2) (0, 0, 0)).2.2) → nm acc (mark + 2) c < Q.length + 2 ∧ Bd.den Q (nm acc (mark + 2) c) = Bd.den L c := by
      intro c hc
      unfold nm
      by_cases hin : c ∈ acc
      · rw [if_pos hin]
        have hcl := (hacc c hin).1
        rcases hC j m hmj c hc with h3 | ⟨i, hi, h3⟩
        · omega
        · have e := idx_of hnd h3
          rw [e]
          refine ⟨by omega, ?_⟩
          rw [← hP]
          exact S.den i c hi h3
      · rw [if_neg hin]
        rcases hC j m hmj c hc with h3 | ⟨i, hi, h3⟩
        · exact ⟨by omega, hold c h3⟩
        · exact absurd (List.mem_of_getElem? h3) hin
    obtain ⟨l1, l2⟩ := child _ (Or.inl rfl)
    obtain ⟨r1, r2⟩ := child _ (Or.inr rfl)
    have hQ : Bd.Okay bits Q := by rw [← hP]; exact S.okay
    have hnew : Bd.mux (rn L acc (mark + 2) m).1 (Bd.den Q (rn L acc (mark + 2) m).2.1) (Bd.den Q (rn L acc (mark + 2) m).2.2) = Bd.den L m := by
      rw [hdm, ← l2, ← r2]; rfl
    have hO : Bd.Okay bits (Q ++ [rn L acc (mark + 2) m]) := by
      refine hQ.snoc ?_ l1 r1 ?_ f4 ?_ ?_
      · intro hin
        obtain ⟨i, hi, e⟩ := List.mem_iff_getElem.1 hin
        have hi' : Q[i]? = some (rn L acc (mark + 2) m) := by rw [List.getElem?_eq_getElem hi, e]
        have d1 := Bd.den_at hQ hi'
        rw [hnew] at d1
        rcases Nat.lt_or_ge i mark with h | h
        · rw [hold _ (by omega)] at d1
          have := Bd.canon hL (by omega) b2 d1
          omega
        · obtain ⟨q, hq⟩ : ∃ q, acc[i - mark]? = some q := ⟨acc[i - mark]'(by omega), List.getElem?_eq_getElem _⟩
          have d2 := S.den (i - mark) q (by omega) hq
          rw [hP, show mark + 2 + (i - mark) = i + 2 by omega, d1] at d2
          have hq2 := hacc q (List.mem_of_getElem? hq)
          have := Bd.canon hL b2 hq2.2 d2
          subst this
          have e1 := idx_of hnd hq
          have e2 := idx_of hnd hmj
          omega
      · intro e
        have : Bd.den L (L.getD (m - 2) (0, 0, 0)).2.1 = Bd.den L (L.getD (m - 2) (0, 0, 0)).2.2 := by
          rw [← l2, ← r2]
          exact congrArg (Bd.den Q) e
        exact f3 (Bd.canon hL (by omega) (by omega) this)
      · have := Bd.bit_ge hQ l1 (k := (L.getD (m - 2) (0, 0, 0)).1 + 1) (by rw [l2]; exact (Bd.from_den hL _ (by omega)).mono f5) (by have := hL.few; omega)
        exact this
      · have := Bd.bit_ge hQ r1 (k := (L.getD (m - 2) (0, 0, 0)).1 + 1) (by rw [r2]; exact (Bd.from_den hL _ (by omega)).mono f6) (by have := hL.few; omega)
        exact this
    have eQ : L.take mark ++ (acc.map (rn L acc (mark + 2))).take (j + 1) = Q ++ [rn L acc (mark + 2) m] := by rw [eT, ← List.append_assoc, hP]
    refine ⟨by rw [eQ]; exact hO, fun i q hi hq => ?_⟩
    rw [eQ]
    rcases Nat.lt_or_ge i j with h | h
    · rw [Bd.den_snoc_old _ _ (by omega)]
      have := S.den i q h hq
      rw [hP] at this
      exact this
    · have : i = j := by omega
      subst this
      rw [hmj] at hq
      cases hq
      rw [show mark + 2 + i = Q.length + 2 by omega, Bd.den_snoc_new]
      exact hnew
end Go.Proofs.Ytffngpdngjfcfaa
namespace Go.Proofs.Ytffngpdngjfcfaa
open Bd (Nd)

theorem vis_fuel {L : List Nd} (hL : Falls L) (least : Nat) (h2 : 2 ≤ least) : ∀ n k acc, n < k → n < L.length + 2 → vis L least k n acc = vis L least (n + 1) n acc := by
  intro n
  induction n using Nat.strongRecOn with
  | ind n ih =>
    intro k acc hk hn
    cases k with
    | zero => omega
    | succ k =>
      show vis L least (k + 1) n acc = vis L least (n + 1) n acc
      unfold vis
      by_cases h1 : n < least
      · rw [if_pos h1, if_pos h1]
      · rw [if_neg h1, if_neg h1]
        by_cases h3 : n ∈ acc
        · rw [if_pos h3, if_pos h3]
        · rw [if_neg h3, if_neg h3]
          obtain ⟨a, b, _⟩ := hL.at (n := n) (by omega) hn
          rw [ih _ a k acc (by omega) (by omega), ih _ a n acc (by omega) (by omega), ih _ b k _ (by omega) (by omega), ih _ b n _ (by omega) (by omega)]

/-- Two numbers of two lists that mean the same. -/
def Rel (L L' : List Nd) (m m' : Nat) : Prop := m < L.length + 2 ∧ m' < L'.length + 2 ∧ Bd.den L m = Bd.den L' m'

section
variable {bits bits' : Nat} {L L' : List Nd}
theorem Rel.symm {m m' : Nat} (h : Rel L L' m m') : Rel L' L m' m := ⟨h.2.1, h.1, h.2.2.symm⟩
theorem rel_fn (hL' : Bd.Okay bits' L') {m a b : Nat} (h1 : Rel L L' m a) (h2 : Rel L L' m b) : a = b := Bd.canon hL' h1.2.1 h2.2.1 (h1.2.2.symm.trans h2.2.2)
theorem rel_end (hL' : Bd.Okay bits' L') {m m' : Nat} (h : Rel L L' m m') (hm : m < 2) : m' = m := by
  refine Bd.canon hL' h.2.1 (by omega) ?_
  rw [← h.2.2]
  rcases Nat.lt_or_ge m 1 with h0 | h0
  · have : m = 0 := by omega
    subst this
    rw [Bd.den_zero, Bd.den_zero]
  · have : m = 1 := by omega
    subst this
    rw [Bd.den_one, Bd.den_one]
theorem rel_two (hL : Bd.Okay bits L) (hL' : Bd.Okay bits' L') {m m' : Nat} (h : Rel L L' m m') : m < 2 ↔ m' < 2 := by
  constructor
  · intro hm; rw [rel_end hL' h hm]; exact hm
  · intro hm; rw [rel_end hL h.symm hm]; exact hm
theorem rel_bit (hL : Bd.Okay bits L) (hL' : Bd.Okay bits' L') {m m' : Nat} (h : Rel L L' m m') : Bd.bitOf L m = Bd.bitOf L' m' := by
  have h1 := Bd.bit_ge hL' h.2.1 (k := Bd.bitOf L m) (by rw [← h.2.2]; exact Bd.from_den hL m h.1) (Bd.bitOf_le hL h.1)
  have h2 := Bd.bit_ge hL h.1 (k := Bd.bitOf L' m') (by rw [h.2.2]; exact Bd.from_den hL' m' h.2.1) (Bd.bitOf_le hL' h.2.1)
  omega
theorem half_of (hL : Bd.Okay bits L) {m : Nat} (h2 : 2 ≤ m) (hm : m < L.length + 2) : L[m - 2]? = some (L.getD (m - 2) (0, 0, 0)) ∧ (L.getD (m - 2) (0, 0, 0)).1 = Bd.bitOf L m ∧ (L.getD (m - 2) (0, 0, 0)).2.1 < m ∧ (L.getD (m - 2) (0, 0, 0)).2.2 < m ∧
    Bd.den L (L.getD (m - 2) (0, 0, 0)).2.1 = Bd.cof (Bd.den L m) (Bd.bitOf L m) false ∧ Bd.den L (L.getD (m - 2) (0, 0, 0)).2.2 = Bd.cof (Bd.den L m) (Bd.bitOf L m) true := by
  obtain ⟨a, b, hx⟩ := hL.falls.at h2 hm
  obtain ⟨f1, f2, f3, f4, f5, f6⟩ := hL.fit _ _ hx
  have hb : (L.getD (m - 2) (0, 0, 0)).1 = Bd.bitOf L m := by
    have := Bd.bitOf_at hx
    rw [show m - 2 + 2 = m by omega] at this
    exact this.symm
  have hd : Bd.den L m = Bd.mux (L.getD (m - 2) (0, 0, 0)).1 (Bd.den L (L.getD (m - 2) (0, 0, 0)).2.1) (Bd.den L (L.getD (m - 2) (0, 0, 0)).2.2) := by
    have := Bd.den_at hL hx
    rw [show m - 2 + 2 = m by omega] at this
    exact this
  have fl := (Bd.from_den hL (L.getD (m - 2) (0, 0, 0)).2.1 (by omega)).mono f5
  have fh := (Bd.from_den hL (L.getD (m - 2) (0, 0, 0)).2.2 (by omega)).mono f6
  have c0 := Bd.cof_mux fl fh false
  have c1 := Bd.cof_mux fl fh true
  rw [← hd] at c0 c1
  rw [hb] at c0 c1
  exact ⟨hx, hb, a, b, c0.symm, c1.symm⟩
theorem rel_half (hL : Bd.Okay bits L) (hL' : Bd.Okay bits' L') {m m' : Nat} (h : Rel L L' m m') (h2 : 2 ≤ m) : Rel L L' (L.getD (m - 2) (0, 0, 0)).2.1 (L'.getD (m' - 2) (0, 0, 0)).2.1 ∧ Rel L L' (L.getD (m - 2) (0, 0, 0)).2.2 (L'.getD (m' - 2) (0, 0, 0)).2.2 ∧ (L.getD (m - 2) (0, 0, 0)).1 = (L'.getD (m' - 2) (0, 0, 0)).1 := by
  have h2' : 2 ≤ m' := by have := rel_two hL hL' h; omega
  obtain ⟨_, b1, l1, h1, c1, d1⟩ := half_of hL h2 h.1
  obtain ⟨_, b2, l2, h2, c2, d2⟩ := half_of hL' h2' h.2.1
  have hb := rel_bit hL hL' h
  have k1 := h.1
  have k2 := h.2.1
  exact ⟨⟨by omega, by omega, by rw [c1, c2, h.2.2, hb]⟩, ⟨by omega, by omega, by rw [d1, d2, h.2.2, hb]⟩, by rw [b1, b2, hb]⟩

/-- Two rows of numbers that mean the same. -/
def Alike (L L' : List Nd) (acc acc' : List Nat) : Prop := acc.length = acc'.length ∧ ∀ (i a a' : Nat), acc[i]? = some a → acc'[i]? = some a' → Rel L L' a a'
theorem Alike.symm {acc acc' : List Nat} (h : Alike L L' acc acc') : Alike L' L acc' acc := ⟨h.1.symm, fun i a a' h1 h2 => (h.2 i a' a h2 h1).symm⟩
theorem Alike.at {acc acc' : List Nat} (hL' : Bd.Okay bits' L') (h : Alike L L' acc acc') {i a b : Nat} (ha : acc[i]? = some a) (hr : Rel L L' a b) : acc'[i]? = some b := by
  have hi := Bd.getElem?_lt ha
  have hx : acc'[i]? = some (acc'[i]'(by rw [← h.1]; exact hi)) := List.getElem?_eq_getElem _
  have := rel_fn hL' (h.2 i a _ ha hx) hr
  rw [hx, this]
theorem Alike.mem {acc acc' : List Nat} (hL' : Bd.Okay bits' L') (h : Alike L L' acc acc') {a b : Nat} (ha : a ∈ acc) (hr : Rel L L' a b) : b ∈ acc' := by
  obtain ⟨i, hi, e⟩ := List.mem_iff_getElem.1 ha
  exact List.mem_of_getElem? (h.at hL' (by rw [List.getElem?_eq_getElem hi, e]) hr)
theorem Alike.snoc {acc acc' : List Nat} (h : Alike L L' acc acc') {a b : Nat} (hr : Rel L L' a b) : Alike L L' (acc ++ [a]) (acc' ++ [b]) := by
  refine ⟨by simp [h.1], fun i x x' hx hx' => ?_⟩
  have e := h.1
  rcases Nat.lt_or_ge i acc.length with h1 | h1
  · rw [List.getElem?_append_left h1] at hx
    rw [List.getElem?_append_left (by omega)] at hx'
    exact h.2 i x x' hx hx'
  · rw [List.getElem?_append_right h1] at hx
    rw [List.getElem?_append_right (by omega), ← e] at hx'
    have h0 : i - acc.length = 0 := by have := Bd.getElem?_lt hx; simp at this; exact this
    rw [h0] at hx hx'
    simp at hx hx'
    subst hx hx'
    exact hr

theorem vis_alike (hL : Bd.Okay bits L) (hL' : Bd.Okay bits' L') : ∀ k m m' acc acc', Rel L L' m m' → Alike L L' acc acc' → Alike L L' (vis L 2 k m acc) (vis L' 2 k m' acc') := by
  intro k
  induction k with
  | zero => intro m m' acc acc' _ h; exact h
  | succ k ih =>
    intro m m' acc acc' hr h
    unfold vis
    have h2 := rel_two hL hL' hr
    by_cases hm : m < 2
    · rw [if_pos hm, if_pos (h2.1 hm)]; exact h
    · rw [if_neg hm, if_neg (fun e => hm (h2.2 e))]
      by_cases hin : m ∈ acc
      · rw [if_pos hin, if_pos (h.mem hL' hin hr)]; exact h
      · rw [if_neg hin, if_neg (fun e => hin (h.symm.mem hL e hr.symm))]
        obtain ⟨r1, r2, _⟩ := rel_half hL hL' hr (by omega)
        exact (ih _ _ _ _ r2 (ih _ _ _ _ r1 h)).snoc hr

theorem alike_nil : Alike L L' [] [] := ⟨rfl, fun i a a' h _ => by simp at h⟩
/-- The numbers that a node needs, in the order of a list. -/
def ords (L : List Nd) (n : Nat) : List Nat := vis L 2 (n + 1) n []
theorem ords_alike (hL : Bd.Okay bits L) (hL' : Bd.Okay bits' L') {n n' : Nat} (h : Rel L L' n n') : Alike L L' (ords L n) (ords L' n') := by
  have := vis_alike hL hL' (n + n' + 1) n n' [] [] h alike_nil
  rw [vis_fuel hL.falls 2 (by omega) n _ [] (by omega) h.1, vis_fuel hL'.falls 2 (by omega) n' _ [] (by omega) h.2.1] at this
  exact this
theorem ords_nodup (hL : Bd.Okay bits L) {n : Nat} (hn : n < L.length + 2) : (ords L n).Nodup := vis_nodup L 2 hL.falls (by omega) (n + 1) n [] hn (by simp)
theorem ords_lt (hL : Bd.Okay bits L) {n : Nat} (hn : n < L.length + 2) : ∀ m, m ∈ ords L n → 2 ≤ m ∧ m < L.length + 2 := vis_lt L 2 hL.falls (by omega) (n + 1) n [] hn (by simp)
theorem ords_closed (hL : Bd.Okay bits L) {n : Nat} (hn : n < L.length + 2) : Closed L 2 (ords L n) := vis_closed L 2 hL.falls (by omega) (n + 1) n [] (by omega) hn (fun j m h => by simp at h)
theorem ords_last {n : Nat} (h2 : 2 ≤ n) : ∃ l, ords L n = l ++ [n] := by
  unfold ords vis
  rw [if_neg (by omega), if_neg (by simp)]
  exact ⟨_, rfl⟩

theorem list_length (n : Nat) : (listOf L n).length = (ords L n).length := by unfold listOf; rw [List.length_map]; rfl
theorem list_at {n i : Nat} {m : Nat} (h : (ords L n)[i]? = some m) : (listOf L n)[i]? = some (rn L (ords L n) 2 m) := by
  show ((ords L n).map (rn L (ords L n) 2))[i]? = _
  rw [List.getElem?_map, h]; rfl

theorem name_alike (hL : Bd.Okay bits L) (hL' : Bd.Okay bits' L') {acc acc' : List Nat} (h : Alike L L' acc acc') (hn' : acc'.Nodup) {c c' : Nat} (hr : Rel L L' c c') (hc : c < 2 ∨ c ∈ acc) : nm acc 2 c = nm acc' 2 c' := by
  unfold nm
  by_cases hin : c ∈ acc
  · have hin' := h.mem hL' hin hr
    rw [if_pos hin, if_pos hin']
    have := h.at hL' (idx_at hin) hr
    rw [idx_of hn' this]
  · have hin' : c' ∉ acc' := fun e => hin (h.symm.mem hL e hr.symm)
    rw [if_neg hin, if_neg hin']
    rcases hc with hc | hc
    · exact (rel_end hL' hr hc).symm
    · exact absurd hc hin

/-- A function has one list, whatever the table. -/
theorem list_alike (hL : Bd.Okay bits L) (hL' : Bd.Okay bits' L') {n n' : Nat} (h : Rel L L' n n') : listOf L n = listOf L' n' := by
  have hA := ords_alike hL hL' h
  apply List.ext_getElem?
  intro i
  rcases Nat.lt_or_ge i (ords L n).length with hi | hi
  · have e1 : (ords L n)[i]? = some (ords L n)[i] := List.getElem?_eq_getElem hi
    have e2 : (ords L' n')[i]? = some ((ords L' n')[i]'(by rw [← hA.1]; exact hi)) := List.getElem?_eq_getElem _
    rw [list_at e1, list_at e2]
    have hr := hA.2 i _ _ e1 e2
    have hm := ords_lt hL h.1 _ (List.mem_of_getElem? e1)
    obtain ⟨r1, r2, r3⟩ := rel_half hL hL' hr hm.1
    have cl := ords_closed hL h.1 i _ e1
    have inn : ∀ c, (c < 2 ∨ ∃ j, j < i ∧ (ords L n)[j]? = some c) → c < 2 ∨ c ∈ ords L n := fun c hc => hc.imp_right fun ⟨j, _, hj⟩ => List.mem_of_getElem? hj
    have q1 := name_alike hL hL' hA (ords_nodup hL' h.2.1) r1 (inn _ (cl _ (Or.inl rfl)))
    have q2 := name_alike hL hL' hA (ords_nodup hL' h.2.1) r2 (inn _ (cl _ (Or.inr rfl)))
    unfold rn
    rw [r3, q1, q2]
  · rw [List.getElem?_eq_none (by rw [list_length]; exact hi), List.getElem?_eq_none (by rw [list_length, ← hA.1]; exact hi)]

/-- A list is a table, and each of its nodes means what it meant. -/
theorem list_okay (hL : Bd.Okay bits L) {n : Nat} (hn : n < L.length + 2) : Bd.Okay bits (listOf L n) ∧ ∀ i m, (ords L n)[i]? = some m → Bd.den (listOf L n) (i + 2) = Bd.den L m := by
  have S := shrunk_all (mark := 0) hL (Nat.zero_le _) (ords_nodup hL hn) (fun m hm => ords_lt hL hn m hm) (ords_closed hL hn) (ords L n).length (Nat.le_refl _)
  have e : L.take 0 ++ ((ords L n).map (rn L (ords L n) (0 + 2))).take (ords L n).length = listOf L n := by
    rw [List.take_zero, List.nil_append, List.take_of_length_le (by rw [List.length_map]; omega)]
    rfl
  have h1 := S.okay
  rw [e] at h1
  refine ⟨h1, fun i m hi => ?_⟩
  have h2 := S.den i m (Bd.getElem?_lt hi) hi
  rw [e, show 0 + 2 + i = i + 2 by omega] at h2
  exact h2
theorem list_last (hL : Bd.Okay bits L) {n : Nat} (h2 : 2 ≤ n) (hn : n < L.length + 2) : 1 ≤ (listOf L n).length ∧ Bd.den (listOf L n) ((listOf L n).length + 1) = Bd.den L n := by
  obtain ⟨l, e⟩ := ords_last (L := L) h2
  have hlen : (listOf L n).length = l.length + 1 := by rw [list_length, e]; simp
  have hx : (ords L n)[l.length]? = some n := by rw [e, List.getElem?_append_right (Nat.le_refl _)]; simp
  have := (list_okay hL hn).2 _ _ hx
  rw [hlen]
  exact ⟨by omega, this⟩
theorem list_rel (hL : Bd.Okay bits L) {n : Nat} (h2 : 2 ≤ n) (hn : n < L.length + 2) : Rel L (listOf L n) n ((listOf L n).length + 1) := by
  obtain ⟨h1, h3⟩ := list_last hL h2 hn
  exact ⟨hn, by omega, h3.symm⟩
theorem list_few (hL : Bd.Okay bits L) {n : Nat} (hn : n < L.length + 2) : (listOf L n).length ≤ L.length := by
  rw [list_length]
  have hnd := ords_nodup hL hn
  have hlt := ords_lt hL hn
  refine Bd.pigeon L.length (ords L n).length (fun i => (ords L n).getD i 0 - 2) (fun i hi => ?_) (fun i j hi hj he => ?_)
  · have e : (ords L n).getD i 0 = (ords L n)[i] := by rw [List.getD_eq_getElem?_getD, List.getElem?_eq_getElem hi]; rfl
    have := hlt _ (List.getElem_mem hi)
    show (ords L n).getD i 0 - 2 < L.length
    rw [e]
    omega
  · have e1 : (ords L n).getD i 0 = (ords L n)[i] := by rw [List.getD_eq_getElem?_getD, List.getElem?_eq_getElem hi]; rfl
    have e2 : (ords L n).getD j 0 = (ords L n)[j] := by rw [List.getD_eq_getElem?_getD, List.getElem?_eq_getElem hj]; rfl
    have a1 := hlt _ (List.getElem_mem hi)
    have a2 := hlt _ (List.getElem_mem hj)
    have he' : (ords L n).getD i 0 - 2 = (ords L n).getD j 0 - 2 := he
    rw [e1, e2] at he'
    exact (List.getElem_inj (h₀ := hi) (h₁ := hj) hnd).1 (by omega)
end

/-- A right list: a table that is the list of its last node. -/
structure Right (bits : Nat) (Q : List Nd) : Prop where
  okay : Bd.Okay bits Q
  order : ∀ i m, (ords Q (Q.length + 1))[i]? = some m → m = i + 2
  all : (ords Q (Q.length + 1)).length = Q.length

theorem list_right {bits : Nat} {L : List Nd} (hL : Bd.Okay bits L) {n : Nat} (h2 : 2 ≤ n) (hn : n < L.length + 2) : Right bits (listOf L n) := by
  obtain ⟨hQ, hd⟩ := list_okay hL hn
  have hA := ords_alike hL hQ (list_rel hL h2 hn)
  refine ⟨hQ, fun i m hi => ?_, by rw [← hA.1, list_length]⟩
  have hil : i < (ords L n).length := by rw [hA.1]; exact Bd.getElem?_lt hi
  have e1 : (ords L n)[i]? = some (ords L n)[i] := List.getElem?_eq_getElem hil
  have hr := hA.2 i _ _ e1 hi
  refine Bd.canon hQ hr.2.1 (by rw [list_length]; omega) ?_
  rw [hd i _ e1]
  exact hr.2.2.symm
theorem Right.nil {bits : Nat} (h : bits ≤ 128) : Right bits [] := ⟨Bd.Okay.nil h, fun i m h => by simp [ords, vis] at h, by simp [ords, vis]⟩

/-- Functions of a family that are those of a list. -/
def denFam {bits M : Nat} (A : Bd.Fam bits M) (Q : List Nd) (hQ : Bd.Okay bits Q) : Bd.Fam bits M where
  F k f := A.F k f ∧ ∃ i, i < Q.length + 2 ∧ f = Bd.den Q i
  dep k f h := A.dep k f h.1
  go k f b hk h := by
    refine ⟨A.go k f b hk h.1, ?_⟩
    obtain ⟨h1, i, hi, rfl⟩ := h
    have hf := A.dep k _ h1
    have hb := Bd.bit_ge hQ hi hf (by have := hQ.few; omega)
    rcases Nat.lt_or_ge k (Bd.bitOf Q i) with h3 | h3
    · exact ⟨i, hi, Bd.cof_from ((Bd.from_den hQ i hi).mono h3) b⟩
    · have hbk : Bd.bitOf Q i = k := by omega
      have h2 : 2 ≤ i := by
        rcases Nat.lt_or_ge i 2 with h4 | h4
        · rw [Bd.bitOf_end Q h4] at hbk
          have := hQ.few
          omega
        · exact h4
      obtain ⟨_, _, l, h, c0, c1⟩ := half_of hQ h2 hi
      cases b
      · exact ⟨(Q.getD (i - 2) (0, 0, 0)).2.1, by omega, by rw [c0, hbk]⟩
      · exact ⟨(Q.getD (i - 2) (0, 0, 0)).2.2, by omega, by rw [c1, hbk]⟩
  en := A.en
  all k f hk h := A.all k f hk h.1

theorem den_few {bits M : Nat} {A : Bd.Fam bits M} {Q N : List Nd} {hQ : Bd.Okay bits Q} (hN : Bd.Okay bits N) (hW : Bd.Within (denFam A Q hQ) N) : N.length ≤ Q.length := by
  have ex : ∀ i, i < N.length → ∃ j, j < Q.length ∧ Bd.den N (i + 2) = Bd.den Q (j + 2) := by
    intro i hi
    obtain ⟨_, j, hj, e⟩ := hW i _ (List.getElem?_eq_getElem hi)
    rcases Nat.lt_or_ge j 2 with h | h
    · exfalso
      have : i + 2 = j := rel_end (L := Q) hN ⟨by omega, by omega, e.symm⟩ h
      omega
    · exact ⟨j - 2, by omega, by rw [e, show j - 2 + 2 = j by omega]⟩
  refine Bd.pigeon Q.length N.length (fun i => if h : i < N.length then (ex i h).choose else 0) (fun i hi => ?_) (fun i j hi hj he => ?_)
  · show (if h : i < N.length then (ex i h).choose else 0) < _
    rw [dif_pos hi]
    exact (ex i hi).choose_spec.1
  · have he' : (if h : i < N.length then (ex i h).choose else 0) = (if h : j < N.length then (ex j h).choose else 0) := he
    rw [dif_pos hi, dif_pos hj] at he'
    have e1 := (ex i hi).choose_spec.2
    have e2 := (ex j hj).choose_spec.2
    rw [he', ← e2] at e1
    have := Bd.canon hN (by omega) (by omega) e1
    omega
end Go.Proofs.Ytffngpdngjfcfaa
namespace Go.Proofs.Ytffngpdngjfcfaa
open Go.RowKit Go.Maps
open Bd (Nd)

theorem below_drewN {B : Nat} {a w : World} (h : Below B a w) (m : Nat) : Below B a (w.drewN m) := ⟨h.os, h.tape, h.output, h.size, h.block⟩

/-- A child of a node, as fits looks at it. -/
def Kid (w : World) (g n b to : Nat) : Prop := to < 2 ∨ ∃ c d : Nat, to = c + 2 ∧ c < n ∧ w.cell? ⟨g, c * 3, none⟩ = some (.int .i64 d) ∧ b < d
theorem Kid.any {w : World} {g n b to : Nat} (h : Kid w g n b to) (hg : g < w.heap.size) : to < 2 ∨ ∃ c d : Nat, to = c + 2 ∧ c < n ∧ (∀ o, (w.alloc o).cell? ⟨g, c * 3, none⟩ = some (.int .i64 d)) ∧ b < d := by
  rcases h with h | ⟨c, d, h1, h2, h3, h4⟩
  · exact Or.inl h
  · exact Or.inr ⟨c, d, h1, h2, fun o => by rw [World.cell?_of_block (heap_alloc_old w o hg)]; exact h3, h4⟩

set_option maxRecDepth 4000 in
set_option maxHeartbeats 2000000 in
theorem fits_ok (w : World) (g cap n i bits : Nat) (x : Nd) (hg : g < w.heap.size) (hi : i < n) (hn : n ≤ 1073741826) (hx0 : w.cell? ⟨g, i * 3, none⟩ = some (.int .i64 x.1)) (hx1 : w.cell? ⟨g, i * 3 + 1, none⟩ = some (.int .i64 x.2.1)) (hx2 : w.cell? ⟨g, i * 3 + 2, none⟩ = some (.int .i64 x.2.2))
    (hb : x.1 < bits) (hne : x.2.1 ≠ x.2.2) (hl : x.2.1 < i + 2) (hh : x.2.2 < i + 2) (kl : Kid w g n x.1 x.2.1) (kh : Kid w g n x.1 x.2.2) :
    Calls Try.prog 91 #[.slice (some ⟨g, 0, none⟩) n cap, .int .i64 i, .int .i64 bits] w fun e w' => e = .returned (.bool true) ∧ Below w.heap.size w w' := by
  have kl' := kl.any hg
  have kh' := kh.any hg
  obtain ⟨b, lo, hi'⟩ := x
  simp only at hx0 hx1 hx2 hb hne hl hh kl' kh'
  have HB : Hid (∀ o, Below w.heap.size w (w.alloc o)) := fun o => (Below.refl _ _).alloc (Nat.le_refl _) o
  have hiI : (i : Int) < (n : Int) := by omega
  have hi0 : (0 : Int) ≤ (i : Int) := by omega
  have hbI : (b : Int) < (bits : Int) := by omega
  have hb0 : ¬ (b : Int) < 0 := by omega
  have hbge : ¬ (bits : Int) ≤ (b : Int) := by omega
  have hneI : ((lo : Int) == (hi' : Int)) = false := by rw [beq_eq_false_iff_ne]; intro h; exact hne (Int.ofNat_inj.1 h)
  have hlI : (lo : Int) < (i : Int) + 2 := by omega
  have hhI : (hi' : Int) < (i : Int) + 2 := by omega
  have hnI : (n : Int) ≤ 1073741826 := by omega
  have ix0 : ∀ (a b : Value) (w : World), (Instr.index 171 (.agg #[a, b]) (.int .i64 0)).run Try.prog w = .ok a w := fun _ _ _ => by kernel_rfl
  have ix1 : ∀ (a b : Value) (w : World), (Instr.index 171 (.agg #[a, b]) (.int .i64 1)).run Try.prog w = .ok b w := fun _ _ _ => by kernel_rfl
  have wl : (((2 : Int) ≤ (lo : Int)) = False ∧ ((lo : Int) < 0) = False ∧ ((i : Int) + 2 ≤ (lo : Int)) = False) ∨ ∃ c d : Nat, (lo : Int) = (c : Int) + 2 ∧ (c : Int) < (n : Int) ∧ c < n ∧ (2 : Int) ≤ (c : Int) + 2 ∧ ¬ (c : Int) + 2 < 0 ∧ (∀ o, (w.alloc o).cell? ⟨g, c * 3, none⟩ = some (.int .i64 d)) ∧ ¬ (d : Int) ≤ (b : Int) := by
    rcases kl' with k | ⟨c, d, h1, h2, h3, h4⟩
    · exact Or.inl ⟨eq_false (by omega), eq_false (by omega), eq_false (by omega)⟩
    · exact Or.inr ⟨c, d, by omega, by omega, h2, by omega, by omega, h3, by omega⟩
  have wh : (((2 : Int) ≤ (hi' : Int)) = False ∧ ((hi' : Int) < 0) = False ∧ ((i : Int) + 2 ≤ (hi' : Int)) = False) ∨ ∃ c d : Nat, (hi' : Int) = (c : Int) + 2 ∧ (c : Int) < (n : Int) ∧ c < n ∧ (2 : Int) ≤ (c : Int) + 2 ∧ ¬ (c : Int) + 2 < 0 ∧ (∀ o, (w.alloc o).cell? ⟨g, c * 3, none⟩ = some (.int .i64 d)) ∧ ¬ (d : Int) ≤ (b : Int) := by
    rcases kh' with k | ⟨c, d, h1, h2, h3, h4⟩
    · exact Or.inl ⟨eq_false (by omega), eq_false (by omega), eq_false (by omega)⟩
    · exact Or.inr ⟨c, d, by omega, by omega, h2, by omega, by omega, h3, by omega⟩
  generalize (lo : Int) = lo at *
  generalize (hi' : Int) = hi' at *
  clear hg hi hn hb hne hl hh kl kh kl' kh'
  rcases wl with ⟨l1, l2, l3⟩ | ⟨c, d, rfl, l1, l2, l5, l6, l3, l4⟩ <;> rcases wh with ⟨r1, r2, r3⟩ | ⟨c', d', rfl, r1, r2, r5, r6, r3, r4⟩
  all_goals (
    go_enter Try.func91, Try.ntmps91
    go_wp2
    refine wp_loop_rounds 3 ?_
    rw [rounds_succ]
    go_wp2
    go_quiet (fail)
    go_wp2
    rw [rounds_succ]
    go_wp2
    go_quiet (fail)
    go_wp2
    rw [rounds_succ]
    go_wp2
    go_ret
    exact ⟨rfl, below_drewN (HB.out _) _⟩)
end Go.Proofs.Ytffngpdngjfcfaa
namespace Go.Proofs.Ytffngpdngjfcfaa
open Go.RowKit Go.Maps
open Bd (Nd)

set_option maxRecDepth 4000 in
set_option maxHeartbeats 2000000 in
theorem inOrder_ok {w : World} {lv : Value} {Q : List Nd} {bits : Nat} (hlist : w.ownsRow 0 82 3 lv Q.length (flat Q)) (hR : Right bits Q) (hlen : Q.length ≤ 1073741824) :
    Calls Try.prog 92 #[lv] w fun e w' => e = .returned (.bool true) ∧ Below w.heap.size w w' := by
  obtain ⟨ao, cp, rfl⟩ : ∃ ao cp, lv = .slice ao Q.length cp := by
    rcases hlist.2 with ⟨h1, h2⟩ | ⟨g, cp, cur, h1, _⟩
    · exact ⟨none, 0, by rw [h1, h2]⟩
    · exact ⟨_, _, h1⟩
  have HL := keep hlist
  have HR := keep hR
  obtain ⟨n, hn⟩ : ∃ n, n = Q.length := ⟨_, rfl⟩
  have HN := keep hn
  rw [← hn] at hlen HL ⊢
  have hlenI : (n : Int) ≤ 1073741824 := by omega
  have e1 : (n : Int) - 1 + 2 = ((n + 1 : Nat) : Int) := by omega
  have HO : Hid (Calls Try.prog 62 #[.slice ao n cp, .int .i64 2, .slice (some ⟨w.heap.size, 0, none⟩) 1 1] (w.alloc (.cells #[.int .i64 ((n : Int) + 1)] 3)) fun e w' => ∃ ob pb, e = .returned (.pointer (some ⟨ob, 0, none⟩)) ∧ OrdAt w' ob pb (.slice ao n cp) Q 2 (ords Q (Q.length + 1)) ∧ Below w.heap.size w w') := by
    have hw : Below w.heap.size w (w.alloc (.cells #[.int .i64 ((n : Int) + 1)] 3)) := (Below.refl _ _).alloc (Nat.le_refl _) _
    refine (orderOf_one (lv := .slice ao n cp) (L := Q) (by rw [← hn]; exact HL.out.alloc _) hR.okay.falls (by omega) (Q.length + 1) w.heap.size 1 (by omega) (by simp) (by rw [cell_at (heap_alloc_new w _), hn]; rfl)).mono ?_
    rintro e w' ⟨ob, pb, rfl, h1, h2⟩
    exact ⟨ob, pb, rfl, h1, hw.trans (h2.mono hw.size)⟩
  clear hlist hR hn hlen
  go_enter Try.func92, Try.ntmps92
  go_wp2_with fail
  refine HO.out.mono ?_
  rintro e w1 ⟨ob, pb, rfl, hO, hb⟩
  have HB1 := keep hb
  have c2 : w1.cell? ⟨ob, 2, none⟩ = some (.map (some pb)) := by rw [cell_at hO.cells]; rfl
  obtain ⟨f, hf, hr, hz⟩ := hO.place
  obtain ⟨D, hown, hsz, hview⟩ := hf
  have HOWN := keep hown
  have HV := keep hview
  have HRM := keep hr
  have HZ := keep hz
  obtain ⟨sz, hsze⟩ : ∃ sz, sz = (ords Q (Q.length + 1)).length := ⟨_, rfl⟩
  rw [← hsze] at HOWN
  clear hO hb hown hview hr hz hsz hsze HO
  go_wp2_with (first | (at_range; refine wpList_range_own _ rfl (.tmp 16) 151 rfl 3 3 kInt Try.underlying151 (plainElem Try.prog 3) pb sz D rfl HOWN.out ?_; intro w0 hrg0 hg0 hs0) | go_in)
  have HB0 : Hid (Below w.heap.size w w0) := by
    have h := HB1.out
    exact ⟨hg0.os.trans h.os, hg0.tape.trans h.tape, hg0.output.trans h.output, by have := h.size; omega, fun k hk => (hg0.block k (by have := h.size; omega) (by simp)).trans (h.block k hk)⟩
  have HRG := keep hrg0
  clear hrg0 hg0
  go_frame
  go_loopw [4] (fun _ wr => ∃ (left : Lit → Bool) (cnt : Nat), wr.ranges Try.prog 3 (plainElem (H := Unit) Try.prog 3) pb w1.heap.size sz D left cnt ∧ Below w.heap.size w wr) (fun _ wr => wr.rangeLeft pb w1.heap.size)
  case atStart => exact ⟨_, _, HRG.out, HB0.out⟩
  case round =>
    obtain ⟨left, cnt, hrg, hB⟩ := hrel
    have HRG := keep hrg
    have HB := keep hB
    clear hB
    go_wp2_with (first | (at_next; refine wpList_next_ranges_ii _ rfl (.tmp 17) rfl 3 3 .i64 .i64 kInt Try.underlying3 Try.underlying3 pb w1.heap.size sz D left cnt rfl hrg ?_ ?_) | go_in)
    · intro _ hl0
      clear hl0
      go_wp2
      go_ret
      exact ⟨rfl, HB.out⟩
    · intro x c w2 cnt1 hwx hwc hlx hat hrg1 hlt hg1 hs1 hen
      have keyx : keyOf Try.prog 3 (.int .i64 x) = some (.int .i64 x) := keyOf_int_mk Try.underlying3 hwx
      obtain ⟨v1, v2⟩ := HV.out _ _ keyx
      rw [Maps.has_true_of_atKey hat] at v1
      obtain ⟨v, hfv⟩ := Option.isSome_iff_exists.1 v1.symm
      have hx0 := HZ.out x v1.symm
      obtain ⟨m, rfl⟩ : ∃ m : Nat, x = (m : Int) := ⟨x.toNat, by omega⟩
      have hmem : m ∈ ords Q (Q.length + 1) := by
        rcases Classical.em (m ∈ ords Q (Q.length + 1)) with h | h
        · exact h
        · have := (HRM.out m).2 h
          have e : f (i6 m) = some v := hfv
          rw [e] at this
          cases this
      obtain ⟨j, hj⟩ : ∃ j, (ords Q (Q.length + 1))[j]? = some m := ⟨_, idx_at hmem⟩
      have hcj : c = ((2 + j : Nat) : Int) := by
        have h1 := v2 _ ((HRM.out m).1 j hj)
        rw [hat] at h1
        cases h1
        rfl
      have hmj := HR.out.order j m hj
      have hc : c = (m : Int) := by omega
      subst hc
      have hBw2 : Hid (Below w.heap.size w w2) := ⟨hg1.os.trans HB.out.os, hg1.tape.trans HB.out.tape, hg1.output.trans HB.out.output, by rw [hs1]; exact HB.out.size, fun k hk => (hg1.block k (by have := HB.out.size; omega) (by simp; have := HB1.out.size; omega)).trans (HB.out.block k hk)⟩
      have HRG1 := keep hrg1
      clear hmj hcj hj hmem hx0 hfv v1 v2 keyx hat hlx hwx hwc hg1 hs1 hrg hrg1
      have hne : ((m : Int) != (m : Int)) = false := by simp
      go_wp2
      go_roundw
      case rel => exact ⟨_, _, HRG1.out, hBw2.out⟩
      case measure => rw [HRG1.out.left_eq, HRG.out.left_eq]; exact hlt
end Go.Proofs.Ytffngpdngjfcfaa
