/-
  A reader's line: its words, or the place of the first fault.
-/
import Derived.Test.YtalmcdhohoplpaaDoorWWord
import Derived.Maps.AppendAt
namespace Go.Proofs.YtalmcdhohoplpaaDoor
open Go.RowKit

theorem Tryd.infoWord : (Tryd.prog.info? 45).map (fun i => (i.zero, i.size, i.bytes)) = some (some (.agg #[.string ⟨#[]⟩, .int .i64 0, .int .i64 0]), 3, 32) := by kernel_rfl

theorem code_miss (l : List UInt8) (h : ∀ x ∈ l, x ≠ (35 : UInt8)) : Wo.code l = l := by
  induction l with
  | nil => rfl
  | cons a p ih =>
    have ha : a.toNat ≠ 35 := fun e => h a (by simp) (UInt8.toNat.inj e)
    rw [Wo.code_cons _ ha, ih (fun x hx => h x (List.mem_cons_of_mem _ hx))]
theorem code_hit (p t : List UInt8) (h : ∀ x ∈ p, x ≠ (35 : UInt8)) : Wo.code (p ++ 35 :: t) = p := by
  induction p with
  | nil => exact Wo.code_hash t rfl
  | cons a p ih =>
    have ha : a.toNat ≠ 35 := fun e => h a (by simp) (UInt8.toNat.inj e)
    show Wo.code (a :: (p ++ 35 :: t)) = _
    rw [Wo.code_cons _ ha, ih (fun x hx => h x (List.mem_cons_of_mem _ hx))]

theorem Cut_hash (l : List UInt8) (w : World) (hs : l.length ≤ 1048576) :
    Calls Tryd.prog 38 #[.string (tx l), .string ⟨#[35]⟩] w fun e w' => ∃ b2 b3, e = .returned (.tuple #[.string (tx (Wo.code l)), .string b2, .bool b3]) ∧ ∃ n, w' = w.drewN n := by
  rcases split_at l 35 with h | ⟨p, t, rfl, h⟩
  · rw [code_miss l h]
    refine (Cut_miss l 35 w h).mono ?_
    rintro e w' ⟨rfl, hn⟩
    exact ⟨_, _, rfl, hn⟩
  · rw [code_hit p t h]
    refine (Cut_hit p t 35 w h (by simp only [List.length_append, List.length_cons] at hs; unfold maxLen; omega)).mono ?_
    rintro e w' ⟨rfl, hn⟩
    exact ⟨_, _, rfl, hn⟩

/-- The cells of words one behind the other. -/
def wcl (x : Wo.Wd) : List Value := [.string (tx x.1), .int .i64 x.2.1, .int .i64 x.2.2]
def flatW (ws : List Wo.Wd) : List Value := ws.flatMap wcl
theorem flatW_snoc (ws : List Wo.Wd) (x : Wo.Wd) : flatW (ws ++ [x]) = flatW ws ++ wcl x := by simp [flatW]
theorem wds_snoc (n : Nat) (ws : List (List UInt8 × Nat)) (x : List UInt8 × Nat) : Wo.wds n (ws ++ [x]) = Wo.wds n ws ++ [(x.1, n, x.2)] := by simp [Wo.wds]

/-- What holds while a line is read. -/
structure WInv (w : World) (r n : Nat) (l : List UInt8) (v : Value) (ws : List (List UInt8 × Nat)) (c : Nat) (t : List UInt8) (wr : World) : Prop where
  rd : Rd wr r n c t
  own : wr.ownsRow w.heap.size 45 3 v ws.length (flatW (Wo.wds n ws))
  grown : w.grownBy wr (some r)
  old : r < w.heap.size
  tok : Wo.tk l 1 = (ws ++ (Wo.tk t c).1, (Wo.tk t c).2)
  clean : ∀ a ∈ t, a.toNat ≠ 35
  col : c + t.length ≤ l.length + 1
  cnt : ws.length + t.length ≤ l.length

section
variable {w : World} {r n : Nat} {l : List UInt8} {v : Value} {ws : List (List UInt8 × Nat)} {c : Nat} {t : List UInt8} {wr : World}
theorem WInv.ne (h : WInv w r n l v ws c t wr) : v.ownBlock ≠ some r := fun e => by have := (h.own.lt r e).1; have := h.old; omega
theorem WInv.skip (h : WInv w r n l v ws c t wr) {w1 : World} (hr : Rd w1 r n (c + (t.length - (Wo.skp t).length)) (Wo.skp t)) (hg : wr.grownBy w1 (some r)) :
    WInv w r n l v ws (c + (t.length - (Wo.skp t).length)) (Wo.skp t) w1 := {
  rd := hr
  own := h.own.kept hg (Or.inr h.ne)
  grown := grown_two h.grown hg
  old := h.old
  tok := by rw [h.tok, Wo.tk_skp t c]
  clean := fun a ha => h.clean a ((List.dropWhile_suffix _).mem ha)
  col := by have := h.col; have := Wo.skp_le t; omega
  cnt := by have := h.cnt; have := Wo.skp_le t; omega }
theorem WInv.fault (h : WInv w r n l v ws c t wr) {a : UInt8} {u : List UInt8} (ht : t = a :: u) (hb : Wo.blk a.toNat = false) (hf : Wo.fst t = 0) : (Wo.tk l 1).2 = some c := by
  subst ht
  rw [h.tok, Wo.tk_fault a u c (h.clean a (by simp)) hb hf]
theorem WInv.done (h : WInv w r n l v ws c [] wr) : (Wo.tk l 1).2 = none ∧ (Wo.tk l 1).1 = ws := by
  rw [h.tok, Wo.tk_nil]; simp
theorem WInv.word (h : WInv w r n l v ws c t wr) {a : UInt8} {u : List UInt8} (ht : t = a :: u) (hb : Wo.blk a.toNat = false) (hf : Wo.fst t ≠ 0) {w2 w3 : World} {v' : Value}
    (hr : Rd w2 r n (c + Wo.fst t) (t.drop (Wo.fst t))) (hg : wr.grownBy w2 (some r)) (hown : w3.ownsRow w.heap.size 45 3 v' (ws.length + 1) (flatW (Wo.wds n ws) ++ wcl (t.take (Wo.fst t), n, c)))
    {o : Obj} (hg3 : (w2.alloc o).grownBy w3 v.ownBlock) : WInv w r n l v' (ws ++ [(t.take (Wo.fst t), c)]) (c + Wo.fst t) (t.drop (Wo.fst t)) w3 := by
  have hle := Wo.fst_le t
  have h2 := hr.lt
  refine {
    rd := ?_
    own := ?_
    grown := ?_
    old := h.old
    tok := ?_
    clean := fun x hx => h.clean x (List.mem_of_mem_drop hx)
    col := by have := h.col; simp only [List.length_drop]; omega
    cnt := by have := h.cnt; simp only [List.length_drop, List.length_append, List.length_singleton]; omega }
  · have h3 : Rd (w2.alloc o) r n (c + Wo.fst t) (t.drop (Wo.fst t)) := new_old _ _ hr
    exact (hg3.block r h3.lt (fun e => h.ne e.symm)).trans h3
  · rw [wds_snoc, flatW_snoc, List.length_append, List.length_singleton]; exact hown
  · refine grown_through (grown_two h.grown hg) (s := v.ownBlock) ⟨hg3.os, hg3.tape, hg3.output, Nat.le_trans (by simp) hg3.size, fun i hi hne => ?_⟩ (fun i hi hne e => ?_)
    · rw [hg3.block i (by simp; omega) hne]
      exact Array.getElem?_push_lt .. |>.trans (Array.getElem?_eq_getElem hi).symm
    · have := (h.own.lt i e.symm).1; omega
  · subst ht
    rw [h.tok, Wo.tk_word a u c (h.clean a (by simp)) hb hf]
    simp
end
end Go.Proofs.YtalmcdhohoplpaaDoor
