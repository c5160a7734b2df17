/-
  A reader: its place goes on (pass, nextLine), blanks are passed by (skip).
-/
import Derived.Test.YtalmcdhohoplpaaDoorWClone
import Derived.Test.YtalmcdhohoplpaaDoorWLay
namespace Go.Proofs.YtalmcdhohoplpaaDoor
open Go.RowKit Go.Shelf

/-- A reader in memory: its line, its column, what of the line is not read yet. -/
def rdc (n c : Nat) (s : List UInt8) : Array Value := #[.int .i64 n, .int .i64 c, .string (tx s)]
def Rd (w : World) (r n c : Nat) (s : List UInt8) : Prop := w.heap[r]? = some (.cells (rdc n c s) 67 (0, 0))
theorem Rd.lt {w : World} {r n c : Nat} {s : List UInt8} (h : Rd w r n c s) : r < w.heap.size := lt_of_block h
theorem Rd.cells {w : World} {r n c : Nat} {s : List UInt8} (h : Rd w r n c s) :
    w.cell? ⟨r, 0, none⟩ = some (.int .i64 n) ∧ w.cell? ⟨r, 1, none⟩ = some (.int .i64 c) ∧ w.cell? ⟨r, 2, none⟩ = some (.string (tx s)) :=
  ⟨cell_at h, cell_at h, cell_at h⟩
theorem Rd.below {w w' : World} {r n c : Nat} {s : List UInt8} (h : Rd w r n c s) (hb : Below w.heap.size w w') : Rd w' r n c s := below_block hb h h.lt
theorem Rd.setCol {w : World} {r n c : Nat} {s : List UInt8} (h : Rd w r n c s) (k : Nat) : Rd (w.setCell ⟨r, 1, none⟩ (.int .i64 k)) r n k s := block_set _ h
theorem Rd.setLine {w : World} {r n c : Nat} {s : List UInt8} (h : Rd w r n c s) (k : Nat) : Rd (w.setCell ⟨r, 0, none⟩ (.int .i64 k)) r k c s := block_set _ h
theorem Rd.setRest {w : World} {r n c : Nat} {s : List UInt8} (h : Rd w r n c s) (t : List UInt8) : Rd (w.setCell ⟨r, 2, none⟩ (.string (tx t))) r n c t := block_set _ h
theorem Rd.free {w : World} {r n c : Nat} {s : List UInt8} (h : Rd w r n c s) (o : Nat) : w.frozen? ⟨r, o, none⟩ = false := free_of h
theorem grown_cell (w : World) (b o : Nat) (u : Value) : w.grownBy (w.setCell ⟨b, o, none⟩ u) (some b) :=
  ⟨rfl, rfl, rfl, by simp, fun k _ hne => Below.heap_setCell _ _ _ _ (fun e => hne (by simp [e]))⟩
theorem grown_two {a b c : World} {r : Option Nat} (h : a.grownBy b r) (k : b.grownBy c r) : a.grownBy c r :=
  ⟨k.os.trans h.os, k.tape.trans h.tape, k.output.trans h.output, Nat.le_trans h.size k.size, fun i hi hne => (k.block i (Nat.lt_of_lt_of_le hi h.size) hne).trans (h.block i hi hne)⟩
theorem grown_drewN {a b : World} {r : Option Nat} {n : Nat} (h : a.grownBy b r) : a.grownBy (b.drewN n) r := ⟨h.os, h.tape, h.output, h.size, h.block⟩
theorem grown_drew {a b : World} {r : Option Nat} (h : a.grownBy b r) : a.grownBy b.drew r := ⟨h.os, h.tape, h.output, h.size, h.block⟩
theorem Rd.drewN {w : World} {r n c m : Nat} {s : List UInt8} (h : Rd w r n c s) : Rd (w.drewN m) r n c s := h

set_option maxHeartbeats 400000 in
theorem pass_any (r n c k : Nat) (s : List UInt8) (w : World) (h : Rd w r n c s) (hc : c + k ≤ 4194304) :
    Calls Tryd.prog 53 #[.pointer (some ⟨r, 0, none⟩), .int .i64 (k : Int)] w fun e w' => e = .returned (.tuple #[]) ∧ w' = w.setCell ⟨r, 1, none⟩ (.int .i64 ((c + k : Nat) : Int)) := by
  have HR := hid h
  have c1 := h.cells.2.1
  have f1 := h.free 1
  clear h
  go_enter Tryd.func53, Tryd.ntmps53
  go_wp2
  go_end0
  exact ⟨rfl, by push_cast; rfl⟩

theorem pass_int (r n c : Nat) (x : Int) (k : Nat) (s : List UInt8) (w : World) (h : Rd w r n c s) (hc : c + k ≤ 4194304) (hx : x = (k : Int)) :
    Calls Tryd.prog 53 #[.pointer (some ⟨r, 0, none⟩), .int .i64 x] w fun e w' => e = .returned (.tuple #[]) ∧ w' = w.setCell ⟨r, 1, none⟩ (.int .i64 ((c + k : Nat) : Int)) := by
  subst hx; exact pass_any r n c k s w h hc

set_option maxHeartbeats 400000 in
theorem nextLine_any (r n c : Nat) (s : List UInt8) (w : World) (h : Rd w r n c s) (hn : n ≤ 4194304) :
    Calls Tryd.prog 46 #[.pointer (some ⟨r, 0, none⟩)] w fun e w' => e = .returned (.tuple #[]) ∧ Rd w' r (n + 1) 1 s ∧ w.grownBy w' (some r) := by
  have HR := hid h
  have c0 := h.cells.1
  have f0 := h.free 0
  have c1 := (h.setLine (n + 1)).cells.2.1
  have f1 := (h.setLine (n + 1)).free 1
  push_cast at c1 f1
  clear h
  go_enter Tryd.func46, Tryd.ntmps46
  go_wp2
  go_end0
  have R := (HR.out.setLine (n + 1)).setCol 1
  push_cast at R
  exact ⟨rfl, R, grown_two (grown_cell _ _ _ _) (grown_cell _ _ _ _)⟩

theorem Tryd.fTrim : Tryd.laysTrim_ren.f 161 = 52 := by kernel_rfl
theorem TrimLeft_blank (l : List UInt8) (w : World) :
    Calls Tryd.prog 52 #[.string (tx l), .string ⟨#[32, 9]⟩] w fun e w' => e = .returned (.string (tx (Wo.skp l))) ∧ Below w.heap.size w w' := by
  have h := Any.strings_TrimLeft_laid Tryd.laysTrim (by kernel_rfl) (tx l) ⟨#[32, 9]⟩ w (by decide) (ascii_of_all (by decide))
  rw [Tryd.fTrim] at h
  refine h.mono fun e w' ⟨he, hb⟩ => ⟨?_, hb⟩
  rw [he]
  have e : Lib.trimLeftS (tx l).data.toList (⟨#[32, 9]⟩ : ByteArray).data.toList = Wo.skp l := by
    unfold Lib.trimLeftS Wo.skp
    show List.dropWhile _ l = _
    congr 1
    funext a
    unfold Wo.blk
    show (a == 32 || (a == 9 || false)) = _
    rw [b_eq, b_eq, Bool.or_false]; rfl
  rw [e]

set_option maxHeartbeats 1000000 in
theorem skip_any (r n c : Nat) (s : List UInt8) (w : World) (h : Rd w r n c s) (hc : c + s.length ≤ 4194304) :
    Calls Tryd.prog 47 #[.pointer (some ⟨r, 0, none⟩)] w fun e w' => e = .returned (.tuple #[]) ∧ Rd w' r n (c + (s.length - (Wo.skp s).length)) (Wo.skp s) ∧ w.grownBy w' (some r) := by
  have HR := hid h
  have c2 := h.cells.2.2
  have hle := Wo.skp_le s
  clear h
  go_enter Tryd.func47, Tryd.ntmps47
  go_wp2_with (go_at_call 52; refine (TrimLeft_blank s _).mono ?_; rintro e w1 ⟨rfl, hb1⟩)
  have R1 := hid (HR.out.below hb1)
  have d2 := R1.out.cells.2.2
  go_region_held3 (fun w' => w'.cell? ⟨r, 2, none⟩ = some (.string (tx s))) (first | (go_keep; done) | exact hcx) (first | (go_at_call 53; refine (pass_int r n c _ (s.length - (Wo.skp s).length) s _ (by exact R1.out) (by omega) (by rw [IntKind.wrap_i64]; omega)).mono ?_; rintro e w2 ⟨rfl, rfl⟩; have hcx : (w1.drew.setCell ⟨r, 1, none⟩ (.int .i64 ((c + (s.length - (Wo.skp s).length) : Nat) : Int))).cell? ⟨r, 2, none⟩ = some (.string (tx s)) := (by exact (R1.out.setCol _).cells.2.2)))
  have R2 := R1.out.setCol (c + (s.length - (Wo.skp s).length))
  have f2 := R1.out.free 2
  go_wp2
  go_end0
  exact ⟨rfl, R2.setRest _, grown_two (grown_of_below _ hb1) (grown_drew (grown_two (grown_cell _ _ _ _) (grown_cell _ _ _ _)))⟩
end Go.Proofs.YtalmcdhohoplpaaDoor
