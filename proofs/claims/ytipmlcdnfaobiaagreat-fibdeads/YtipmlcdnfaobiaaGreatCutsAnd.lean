/-
  Meet and Inside in one contract each; what follows of them.
  The comparison of two rows of texts; alive.
  Cut of two texts; the comparison of two rows of texts; alive.
  texts: the texts of several ternaries.
  cut: the parts of a ternary without another one, put behind those that are there.
  What holds in the rounds of cut: the two boxes, the row of parts, old memory.
  Plain mathematics: what is left of a cube without another one, place by place.
-/
import Derived.Test.YtipmlcdnfaobiaaGreatMathAnd
import Derived.Test.YtipmlcdnfaobiaaGreatReadWAnd
import Derived.Maps.AppendAt
namespace Go.Proofs.YtipmlcdnfaobiaaGreat.Cub
namespace Cu

/-- Up to place k as what both have in common, behind it as a. -/
def mix (a b : List UInt8) (k : Nat) : List UInt8 := (meetL a b).take k ++ a.drop k
/-- Is there a part at place k? The byte turned; the part. -/
def cond (a b : List UInt8) (k : Nat) : Bool := !fixAt a k && fixAt b k
def turned (b : List UInt8) (k : Nat) : UInt8 := if oneAt b k then 48 else 49
def partL (a b : List UInt8) (k : Nat) : List UInt8 := (meetL a b).take k ++ [turned b k] ++ a.drop (k + 1)
def cutTo (a b : List UInt8) : Nat → List (List UInt8)
  | 0 => []
  | k + 1 => cutTo a b k ++ (if cond a b k then [partL a b k] else [])
def cutL (a b : List UInt8) : List (List UInt8) := if meetsB a b then cutTo a b a.length else [a]

theorem mix_zero (a b : List UInt8) : mix a b 0 = a := by simp [mix]
theorem mix_get {a b : List UInt8} (h : a.length = b.length) {k : Nat} (hk : k ≤ a.length) (i : Nat) : (mix a b k)[i]? = if i < k then (meetL a b)[i]? else a[i]? := by
  unfold mix
  have hl : ((meetL a b).take k).length = k := by rw [List.length_take, meetL_length h]; omega
  by_cases hi : i < k
  · rw [if_pos hi, List.getElem?_append_left (by rw [hl]; exact hi), List.getElem?_take_of_lt hi]
  · rw [if_neg hi, List.getElem?_append_right (by rw [hl]; omega), hl, List.getElem?_drop]
    congr 1; omega
theorem part_get {a b : List UInt8} (h : a.length = b.length) {k : Nat} (hk : k < a.length) (i : Nat) : (partL a b k)[i]? = if i = k then some (turned b k) else (mix a b k)[i]? := by
  rw [mix_get h (by omega)]
  unfold partL
  have hl : ((meetL a b).take k).length = k := by rw [List.length_take, meetL_length h]; omega
  by_cases hi : i < k
  · rw [if_neg (by omega), if_pos hi, List.append_assoc, List.getElem?_append_left (by rw [hl]; exact hi), List.getElem?_take_of_lt hi]
  · rw [if_neg hi, List.append_assoc, List.getElem?_append_right (by rw [hl]; omega), hl]
    by_cases e : i = k
    · subst e; simp
    · rw [if_neg e, List.getElem?_append_right (by simp; omega), List.getElem?_drop]
      congr 1; simp; omega
theorem part_length {a b : List UInt8} (h : a.length = b.length) {k : Nat} (hk : k < a.length) : (partL a b k).length = a.length := by
  simp [partL, meetL_length h]; omega

theorem mix_fix {a b : List UInt8} (h : a.length = b.length) {k : Nat} (hk : k < a.length) : fixAt (mix a b k) k = fixAt a k := by
  unfold fixAt; rw [mix_get h (by omega), if_neg (by omega)]

theorem turned_fixed (b : List UInt8) (k : Nat) : turned b k = 48 ∨ turned b k = 49 := by unfold turned; split <;> simp
theorem turned_one (b : List UInt8) (k : Nat) : (turned b k == 49) = !oneAt b k := by unfold turned; cases oneAt b k <;> rfl

theorem fix_part {a b : List UInt8} (h : a.length = b.length) {k : Nat} (hk : k < a.length) (_hc : cond a b k = true) : fixAt (partL a b k) = updw (fixAt (mix a b k)) k := by
  funext i
  simp only [fixAt, updw, part_get h hk]
  by_cases e : i = k
  · rw [if_pos e]; rcases turned_fixed b k with f | f <;> simp [f, e]
  · rw [if_neg e]; simp [e]
theorem one_mix_false {a b : List UInt8} (h : a.length = b.length) {k : Nat} (hk : k < a.length) (hc : cond a b k = true) : oneAt (mix a b k) k = false := by
  have : fixAt a k = false := by simp only [cond, Bool.and_eq_true, Bool.not_eq_true'] at hc; exact hc.1
  unfold fixAt at this
  unfold oneAt
  rw [mix_get h (by omega), if_neg (by omega)]
  simp only [Bool.or_eq_false_iff] at this
  exact this.2
theorem one_part {a b : List UInt8} (h : a.length = b.length) {k : Nat} (hk : k < a.length) (hc : cond a b k = true) : oneAt (partL a b k) = setOne (oneAt (mix a b k)) k (!oneAt b k) := by
  funext i
  by_cases e : i = k
  · subst e
    have h1 := one_mix_false h hk hc
    simp only [setOne, h1, Bool.false_or, decide_true, Bool.and_true]
    unfold oneAt
    rw [part_get h hk, if_pos rfl]
    have := turned_one b i
    unfold oneAt at this
    rw [← this]; rfl
  · simp only [setOne, e, decide_false, Bool.and_false, Bool.or_false]
    unfold oneAt
    rw [part_get h hk, if_neg e]

theorem mix_succ {a b : List UInt8} (h : a.length = b.length) {k : Nat} (hk : k < a.length) (i : Nat) : (mix a b (k + 1))[i]? = if i = k then (meetL a b)[k]? else (mix a b k)[i]? := by
  rw [mix_get h (by omega), mix_get h (by omega)]
  by_cases e : i = k
  · subst e; rw [if_pos (by omega), if_pos rfl]
  · rw [if_neg e]
    by_cases hi : i < k
    · rw [if_pos (by omega), if_pos hi]
    · rw [if_neg (by omega), if_neg hi]

theorem meet_at_free {a b : List UInt8} (ha : a.all sym = true) (h : a.length = b.length) {k : Nat} (hk : k < a.length) (hf : fixAt a k = false) : (meetL a b)[k]? = b[k]? := by
  have hk' : k < b.length := h ▸ hk
  rw [List.getElem?_eq_getElem (by rw [meetL_length h]; exact hk), meetL_at h k hk, List.getElem?_eq_getElem hk']
  rw [fixAt_lt hk] at hf
  rcases sym_at ha k hk with e | e | e <;> simp [e] at hf ⊢
theorem meet_at_fix {a b : List UInt8} (ha : a.all sym = true) (h : a.length = b.length) {k : Nat} (hk : k < a.length) (hf : fixAt a k = true) : (meetL a b)[k]? = a[k]? := by
  rw [List.getElem?_eq_getElem (by rw [meetL_length h]; exact hk), meetL_at h k hk, List.getElem?_eq_getElem hk]
  rw [fixAt_lt hk] at hf
  rcases sym_at ha k hk with e | e | e <;> simp [e] at hf ⊢

theorem fix_next {a b : List UInt8} (ha : a.all sym = true) (h : a.length = b.length) {k : Nat} (hk : k < a.length) (hc : cond a b k = true) : fixAt (mix a b (k + 1)) = updw (fixAt (mix a b k)) k := by
  have hc' := hc
  simp only [cond, Bool.and_eq_true, Bool.not_eq_true'] at hc'
  funext i
  by_cases e : i = k
  · subst e
    have : fixAt (mix a b (i + 1)) i = fixAt b i := by
      unfold fixAt; rw [mix_succ h hk, if_pos rfl, meet_at_free ha h hk hc'.1]
    rw [this, hc'.2]; simp [updw]
  · simp only [fixAt, updw, mix_succ h hk, if_neg e]; simp [e]
theorem one_next {a b : List UInt8} (ha : a.all sym = true) (h : a.length = b.length) {k : Nat} (hk : k < a.length) (hc : cond a b k = true) : oneAt (mix a b (k + 1)) = setOne (oneAt (mix a b k)) k (oneAt b k) := by
  have hc' := hc
  simp only [cond, Bool.and_eq_true, Bool.not_eq_true'] at hc'
  funext i
  by_cases e : i = k
  · subst e
    have : oneAt (mix a b (i + 1)) i = oneAt b i := by
      unfold oneAt; rw [mix_succ h hk, if_pos rfl, meet_at_free ha h hk hc'.1]
    rw [this]; simp [setOne, one_mix_false h hk hc]
  · simp only [oneAt, setOne, mix_succ h hk, if_neg e]; simp [e]
theorem mix_same {a b : List UInt8} (ha : a.all sym = true) (hb : b.all sym = true) (h : a.length = b.length) {k : Nat} (hk : k < a.length) (hc : cond a b k = false) : mix a b (k + 1) = mix a b k := by
  apply List.ext_getElem?
  intro i
  rw [mix_succ h hk]
  by_cases e : i = k
  · subst e
    rw [if_pos rfl, mix_get h (by omega), if_neg (by omega)]
    cases hf : fixAt a i with
    | true => exact meet_at_fix ha h hk hf
    | false =>
      have hfb : fixAt b i = false := by simpa [cond, hf] using hc
      have hk' : i < b.length := h ▸ hk
      rw [meet_at_free ha h hk hf, List.getElem?_eq_getElem hk', List.getElem?_eq_getElem hk]
      rw [fixAt_lt hk] at hf
      rw [fixAt_lt hk'] at hfb
      rcases sym_at ha i hk with e | e | e <;> rcases sym_at hb i hk' with f | f | f <;> simp [e, f] at hf hfb ⊢
  · rw [if_neg e]

theorem part_sym {a b : List UInt8} (ha : a.all sym = true) (hb : b.all sym = true) (h : a.length = b.length) {k : Nat} : (partL a b k).all sym = true := by
  have hm := List.all_eq_true.1 (meetL_sym ha hb h)
  have ha' := List.all_eq_true.1 ha
  rw [List.all_eq_true]
  intro x hx
  simp only [partL, List.mem_append, List.mem_singleton] at hx
  rcases hx with (hx | hx) | hx
  · exact hm x (List.mem_of_mem_take hx)
  · subst hx; rcases turned_fixed b k with f | f <;> rw [f] <;> rfl
  · exact ha' x (List.mem_of_mem_drop hx)
theorem part_right {a b : List UInt8} (ha : right a = true) (hb : right b = true) (h : a.length = b.length) {k : Nat} (hk : k < a.length) : right (partL a b k) = true := by
  obtain ⟨h1, h2, h3⟩ := right_all ha
  obtain ⟨k1, _, _⟩ := right_all hb
  simp only [right, Bool.and_eq_true, decide_eq_true_eq]
  exact ⟨⟨part_sym h1 k1 h, by rw [part_length h hk]; exact h2⟩, by rw [part_length h hk]; exact h3⟩
theorem cutTo_right {a b : List UInt8} (ha : right a = true) (hb : right b = true) (h : a.length = b.length) : ∀ k, k ≤ a.length → ∀ l ∈ cutTo a b k, right l = true ∧ l.length = a.length
  | 0, _ => by intro l hl; simp [cutTo] at hl
  | k + 1, hk => by
    intro l hl
    rw [cutTo, List.mem_append] at hl
    rcases hl with hl | hl
    · exact cutTo_right ha hb h k (by omega) l hl
    · split at hl
      · rw [List.mem_singleton] at hl; subst hl
        exact ⟨part_right ha hb h (by omega), part_length h (by omega)⟩
      · cases hl
theorem cutL_right {a b : List UInt8} (ha : right a = true) (hb : right b = true) (h : a.length = b.length) : ∀ l ∈ cutL a b, right l = true ∧ l.length = a.length := by
  intro l hl
  unfold cutL at hl
  split at hl
  · exact cutTo_right ha hb h _ (Nat.le_refl _) l hl
  · rw [List.mem_singleton] at hl; subst hl; exact ⟨ha, rfl⟩
theorem cutTo_length (a b : List UInt8) : ∀ k, (cutTo a b k).length ≤ k
  | 0 => by simp [cutTo]
  | k + 1 => by
    have := cutTo_length a b k
    rw [cutTo, List.length_append]
    split <;> simp <;> omega
theorem cutL_length {a b : List UInt8} (ha : right a = true) : (cutL a b).length ≤ 128 := by
  obtain ⟨_, h2, h3⟩ := right_all ha
  unfold cutL
  split
  · exact Nat.le_trans (cutTo_length a b _) h3
  · simp
end Cu
end Go.Proofs.YtipmlcdnfaobiaaGreat.Cub
namespace Go.Proofs.YtipmlcdnfaobiaaGreat.Cub
open Go.RowKit

/-- Ternaries one behind the other, as cells. -/
def flat (ls : List (List UInt8)) : List Value := ls.flatMap fun l => (tc l).toList
theorem flat_nil : flat [] = [] := rfl
theorem flat_append (a b : List (List UInt8)) : flat (a ++ b) = flat a ++ flat b := by simp [flat]
theorem flat_one (l : List UInt8) : flat [l] = (tc l).toList := by simp [flat]

structure CutInv (w : World) (base : Nat) (v : Value) (ts us : Array Value) (p : Value) (m : Nat) (ys : List Value) (wr : World) : Prop where
  t : wr.heap[w.heap.size]? = some (.cells ts 108 (0, 0))
  u : wr.heap[w.heap.size + 1]? = some (.cells us 108 (0, 0))
  own : wr.ownsRow base 108 4 p m ys
  grown : w.grownBy wr v.ownBlock
  place : p.ownBlock = v.ownBlock ∨ ∃ g, p.ownBlock = some g ∧ w.heap.size + 2 ≤ g
  old : ∀ g, v.ownBlock = some g → g < w.heap.size

theorem grown_through {a b c : World} {r s : Option Nat} (h : a.grownBy b r) (k : b.grownBy c s) (hs : ∀ i, i < a.heap.size → some i ≠ r → some i ≠ s) : a.grownBy c r :=
  ⟨k.os.trans h.os, k.tape.trans h.tape, k.output.trans h.output, Nat.le_trans h.size k.size, fun i hi hne => (k.block i (Nat.lt_of_lt_of_le hi h.size) (hs i hi hne)).trans (h.block i hi hne)⟩

section
variable {w : World} {base : Nat} {v : Value} {ts us : Array Value} {p : Value} {m : Nat} {ys : List Value} {wr : World}

theorem CutInv.size (h : CutInv w base v ts us p m ys wr) : w.heap.size + 2 ≤ wr.heap.size := lt_of_block h.u
theorem CutInv.ne (h : CutInv w base v ts us p m ys wr) : p.ownBlock ≠ some w.heap.size ∧ p.ownBlock ≠ some (w.heap.size + 1) := by
  rcases h.place with e | ⟨g, e, hg⟩
  · rw [e]
    exact ⟨fun f => by have := h.old _ f; omega, fun f => by have := h.old _ f; omega⟩
  · rw [e]
    exact ⟨fun f => by simp at f; omega, fun f => by simp at f; omega⟩

theorem CutInv.below (h : CutInv w base v ts us p m ys wr) {w1 : World} (hb : Below wr.heap.size wr w1) : CutInv w base v ts us p m ys w1 := {
  t := below_block hb h.t (lt_of_block h.t)
  u := below_block hb h.u (lt_of_block h.u)
  own := h.own.kept (grown_of_below none hb) (by cases p.ownBlock <;> simp)
  grown := grown_through h.grown (grown_of_below none hb) (fun i _ _ => by simp)
  place := h.place
  old := h.old }

theorem CutInv.write (h : CutInv w base v ts us p m ys wr) {w1 : World} {P : Nat} (g : wr.grownBy w1 (some P)) (hP : w.heap.size + 2 ≤ P) (hne : p.ownBlock ≠ some P) : CutInv w base v ts us p m ys w1 := {
  t := grown_block g h.t (by omega)
  u := grown_block g h.u (by omega)
  own := h.own.kept g (Or.inr hne)
  grown := grown_through h.grown g (fun i hi _ => by simp; omega)
  place := h.place
  old := h.old }

theorem CutInv.fixT (h : CutInv w base v ts us p m ys wr) {w1 : World} {ts' : Array Value} (g : wr.grownBy w1 (some w.heap.size)) (ht : w1.heap[w.heap.size]? = some (.cells ts' 108 (0, 0))) : CutInv w base v ts' us p m ys w1 := {
  t := ht
  u := grown_block g h.u (by omega)
  own := h.own.kept g (Or.inr h.ne.1)
  grown := grown_through h.grown g (fun i hi _ => by simp; omega)
  place := h.place
  old := h.old }

theorem CutInv.append (h : CutInv w base v ts us p m ys wr) {w1 : World} {p' : Value} {m' : Nat} {ys' : List Value} (hown : w1.ownsRow base 108 4 p' m' ys') (g : wr.grownBy w1 p.ownBlock)
    (hat : p'.ownBlock = p.ownBlock ∨ p'.ownBlock = some wr.heap.size) : CutInv w base v ts us p' m' ys' w1 := {
  t := (g.block _ (lt_of_block h.t) (fun e => h.ne.1 e.symm)).trans h.t
  u := (g.block _ (lt_of_block h.u) (fun e => h.ne.2 e.symm)).trans h.u
  own := hown
  grown := grown_through h.grown g (fun i hi hne => by
    rcases h.place with e | ⟨q, e, hq⟩
    · rw [e]; exact hne
    · rw [e]; simp; omega)
  place := by
    rcases hat with e | e
    · rw [e]; exact h.place
    · exact Or.inr ⟨_, e, h.size⟩
  old := h.old }
end

theorem tc_list (l : List UInt8) : (tc l).toList = [.int .u64 (Cu.wd (Cu.fixAt l) 0 : Int), .int .u64 (Cu.wd (Cu.fixAt l) 1 : Int), .int .u64 (Cu.wd (Cu.oneAt l) 0 : Int), .int .u64 (Cu.wd (Cu.oneAt l) 1 : Int)] := rfl
theorem add_zero (g j : Nat) : (⟨g, 0, none⟩ : Addr).add j = ⟨g, j, none⟩ := by
  unfold Addr.add; split <;> simp_all
/-- The cells of a block that has just been laid, one behind the other. -/
theorem new_cells (w : World) (cs : Array Value) (t : TypeId) (g : Nat) (hg : g = w.heap.size) : ∀ j u, cs.toList[j]? = some u → (w.alloc (.cells cs t)).cell? ((⟨g, 0, none⟩ : Addr).add j) = some u := by
  intro j u hj
  subst hg
  have h := new_0 w (.cells cs t)
  rw [add_zero]
  unfold World.cell?
  rw [h]
  simpa using hj
end Go.Proofs.YtipmlcdnfaobiaaGreat.Cub
namespace Go.Proofs.YtipmlcdnfaobiaaGreat.Cub
open Go.RowKit

set_option maxHeartbeats 1000000 in
theorem cut_apart (a b : List UInt8) (width : Nat) (v : Value) (n : Nat) (xs : List Value) (base : Nat) (w : World) (ha : Cu.right a = true) (hb : Cu.right b = true) (h : a.length = b.length) (hm : Cu.meetsB a b = false)
    (hown : w.ownsRow base 108 4 v n xs) (hbase : base ≤ w.heap.size) (hn : n ≤ 1000000) :
    Calls Tryz.prog 80 #[tv a, tv b, .int .i64 (width : Int), v] w fun e w' => ∃ v', e = .returned v' ∧ w'.ownsRow base 108 4 v' (n + 1) (xs ++ flat [a]) ∧ w.grownBy w' v.ownBlock ∧
      (v'.ownBlock = v.ownBlock ∨ ∃ g, v'.ownBlock = some g ∧ w.heap.size ≤ g) := by
  have HA : Hid (Cu.right a = true) := ha
  have HB : Hid (Cu.right b = true) := hb
  have HL : Hid (a.length = b.length) := h
  have I0 : Hid (CutInv w base v (tc a) (tc b) v n xs ((w.alloc (.cells (tc a) 108)).alloc (.cells (tc b) 108))) :=
    ⟨new_old _ _ (new_0 _ _), new_1 _ _ _, (hown.alloc _).alloc _, grown_of_below _ (((Below.refl _ _).alloc (Nat.le_refl _) _).alloc (by simp) _), Or.inl rfl, fun g hg => (hown.lt g hg).2⟩
  clear ha hb h hown
  obtain ⟨i0, hi, hz0, hz1, hz2⟩ := info_parts Tryz.infoTern
  have HI : Hid _ := hi
  have HZ0 : Hid _ := hz0
  have HZ1 : Hid _ := hz1
  have HZ2 : Hid _ := hz2
  clear hi hz0 hz1 hz2
  go_enter Tryz.func80, Tryz.ntmps80
  go_wp2_with fail
  refine (meets_any a b _ HA.out HB.out HL.out).mono ?_
  rintro e w1 ⟨rfl, hb1⟩
  have I1 : Hid _ := I0.out.below hb1
  obtain ⟨t0, t1, t2, t3⟩ := four_cell I1.out.t
  go_wp2_with (first | (at_builtin; refine wpList_append_own_at _ rfl _ _ 101 rfl base 108 i0 (.agg zero4) 4 32 Tryz.underlying101 HI.out HZ0.out HZ1.out HZ2.out rfl (by decide) v n xs rfl (I1.out.own.alloc _) ⟨w1.heap.size, 0, none⟩ 1 1 (tc a).toList rfl rfl (new_cells _ _ _ _ rfl) ?c2 ?c3 ?c4 ?c5 ?_))
  case c2 => rw [tc_list]; simp [Value.oneCell']
  case c3 => unfold maxLen; omega
  case c4 => omega
  case c5 => have := I1.out.size; simp; omega
  intro v' w2 hown2 hgrow2 _ hat2
  have I2 : Hid _ := (I1.out.below ((Below.refl _ _).alloc (Nat.le_refl _) _)).append hown2 hgrow2 (by simpa using hat2)
  clear hown2 hgrow2 hat2 t0 t1 t2 t3
  go_wp2
  go_ret
  refine ⟨v', rfl, ?_, I2.out.grown, ?_⟩
  · rw [flat_one]; exact I2.out.own
  · rcases I2.out.place with e | ⟨g, e, hg⟩
    · exact Or.inl e
    · exact Or.inr ⟨g, e, by omega⟩

set_option maxHeartbeats 4000000 in
theorem cut_meet (a b : List UInt8) (width : Nat) (v : Value) (n : Nat) (xs : List Value) (base : Nat) (w : World) (ha : Cu.right a = true) (hb : Cu.right b = true) (h : a.length = b.length) (hw : a.length = width) (hm : Cu.meetsB a b = true)
    (hown : w.ownsRow base 108 4 v n xs) (hbase : base ≤ w.heap.size) (hn : n ≤ 1000000) :
    Calls Tryz.prog 80 #[tv a, tv b, .int .i64 (width : Int), v] w fun e w' => ∃ v', e = .returned v' ∧ w'.ownsRow base 108 4 v' (n + (Cu.cutTo a b width).length) (xs ++ flat (Cu.cutTo a b width)) ∧ w.grownBy w' v.ownBlock ∧
      (v'.ownBlock = v.ownBlock ∨ ∃ g, v'.ownBlock = some g ∧ w.heap.size ≤ g) := by
  have HA : Hid (Cu.right a = true) := ha
  have HB : Hid (Cu.right b = true) := hb
  have HL : Hid (a.length = b.length) := h
  have HW : Hid (a.length = width) := hw
  obtain ⟨ha1, ha2, ha3⟩ := Cu.right_all ha
  have HS : Hid (a.all Cu.sym = true) := ha1
  have HSB : Hid (b.all Cu.sym = true) := (Cu.right_all hb).1
  have hw128 : width ≤ 128 := by omega
  have I0 : Hid (CutInv w base v (tc a) (tc b) v n xs ((w.alloc (.cells (tc a) 108)).alloc (.cells (tc b) 108))) :=
    ⟨new_old _ _ (new_0 _ _), new_1 _ _ _, (hown.alloc _).alloc _, grown_of_below _ (((Below.refl _ _).alloc (Nat.le_refl _) _).alloc (by simp) _), Or.inl rfl, fun g hg => (hown.lt g hg).2⟩
  clear ha hb h hown hw ha1 ha2 ha3
  obtain ⟨i0, hi, hz0, hz1, hz2⟩ := info_parts Tryz.infoTern
  have HI : Hid _ := hi
  have HZ0 : Hid _ := hz0
  have HZ1 : Hid _ := hz1
  have HZ2 : Hid _ := hz2
  clear hi hz0 hz1 hz2
  go_enter Tryz.func80, Tryz.ntmps80
  go_wp2_with fail
  refine (meets_any a b _ HA.out HB.out HL.out).mono ?_
  rintro e w1 ⟨rfl, hb1⟩
  have I1 : Hid _ := I0.out.below hb1
  go_wp2
  go_loopw [3, 21] (fun p i wr => ∃ k : Nat, k ≤ width ∧ i = .int .i64 k ∧ CutInv w base v (tc (Cu.mix a b k)) (tc b) p (n + (Cu.cutTo a b k).length) (xs ++ flat (Cu.cutTo a b k)) wr)
    (fun _ i _ => width - (intOf i).toNat)
  case atStart =>
    refine ⟨0, Nat.zero_le _, rfl, ?_⟩
    rw [Cu.mix_zero, Cu.cutTo, flat_nil, List.append_nil]
    exact I1.out
  case round =>
    obtain ⟨k, hk, rfl, inv⟩ := hrel
    have J0 : Hid _ := inv
    clear inv I0 I1 hb1
    by_cases hlt : k < width
    · have h128 : k < 128 := by omega
      have HK : Hid (k < a.length) := by show _ < _; rw [HW.out]; exact hlt
      have HF : Hid (Cu.fixAt (Cu.mix a b k) k = Cu.fixAt a k) := Cu.mix_fix HL.out HK.out
      obtain ⟨t0, t1, t2, t3⟩ := four_cell J0.out.t
      rcases bool_two (Cu.fixAt a k) with hfa | hfa
      · have hf : Cu.fixAt (Cu.mix a b k) k = false := HF.out.trans hfa
        have HFA : Hid (Cu.fixAt a k = false) := hfa
        clear hfa
        go_wp2_with fail
        refine (has_any (Cu.fixAt (Cu.mix a b k)) k _ h128).mono ?_
        rintro e w1 ⟨rfl, hb1⟩
        have J1 : Hid _ := J0.out.below hb1
        obtain ⟨y0, y1, y2, y3⟩ := four_cell J1.out.u
        clear t0 t1 t2 t3
        rcases bool_two (Cu.fixAt b k) with hfb | hfb
        · go_wp2_with fail
          refine (has_any (Cu.fixAt b) k _ h128).mono ?_
          rintro e w2 ⟨rfl, hb2⟩
          have J2 : Hid _ := J1.out.below hb2
          have HC : Hid (Cu.cond a b k = false) := by show _ = _; simp [Cu.cond, hfb]
          clear y0 y1 y2 y3
          go_wp2
          go_roundw
          case rel =>
            refine ⟨k + 1, by omega, by go_num, ?_⟩
            rw [Cu.mix_same HS.out HSB.out HL.out HK.out HC.out, Cu.cutTo, HC.out, if_neg (by simp), List.append_nil]
            exact J2.out
          case measure => simp [intOf]; omega
        · have HC : Hid (Cu.cond a b k = true) := by show _ = _; simp [Cu.cond, hfb, HFA.out]
          go_wp2_with fail
          refine (has_any (Cu.fixAt b) k _ h128).mono ?_
          rintro e w2 ⟨rfl, hb2⟩
          have J2 : Hid _ := J1.out.below hb2
          clear y0 y1 y2 y3
          obtain ⟨y0, y1, y2, y3⟩ := four_cell J2.out.u
          go_wp2_with fail
          refine (has_any (Cu.oneAt b) k _ h128).mono ?_
          rintro e w3 ⟨rfl, hb3⟩
          have J3 : Hid _ := J2.out.below hb3
          clear y0 y1 y2 y3
          obtain ⟨t0, t1, t2, t3⟩ := four_cell J3.out.t
          go_wp2_with fail
          refine (fix_any (Cu.fixAt (Cu.mix a b k)) (Cu.oneAt (Cu.mix a b k)) k w3.heap.size (!Cu.oneAt b k) _ h128 (new_0 _ _)).mono ?_
          rintro e w4 ⟨rfl, hP, g4⟩
          rw [← Cu.fix_part HL.out HK.out HC.out, ← Cu.one_part HL.out HK.out HC.out] at hP
          have J4 : Hid _ := (J3.out.below ((Below.refl _ _).alloc (Nat.le_refl _) _)).write g4 J3.out.size (fun e => by have := (J3.out.own.lt _ e).2; omega)
          clear t0 t1 t2 t3
          obtain ⟨t0, t1, t2, t3⟩ := four_cell hP
          have hcl := Cu.cutTo_length a b k
          go_wp2_with (first | (at_builtin; refine wpList_append_own_at _ rfl _ _ 101 rfl base 108 i0 (.agg zero4) 4 32 Tryz.underlying101 HI.out HZ0.out HZ1.out HZ2.out rfl (by decide) u3 (n + (Cu.cutTo a b k).length) (xs ++ flat (Cu.cutTo a b k)) rfl (J4.out.own.alloc _) ⟨w4.heap.size, 0, none⟩ 1 1 (tc (Cu.partL a b k)).toList rfl rfl (new_cells _ _ _ _ rfl) ?c2 ?c3 ?c4 ?c5 ?_))
          case c2 => rw [tc_list]; simp [Value.oneCell']
          case c3 => unfold maxLen; omega
          case c4 => omega
          case c5 => have := J4.out.size; simp; omega
          intro v' w5 hown5 hgrow5 _ hat5
          have J5 : Hid _ := (J4.out.below ((Below.refl _ _).alloc (Nat.le_refl _) _)).append hown5 hgrow5 (by simpa using hat5)
          clear hown5 hgrow5 hat5 t0 t1 t2 t3 hP g4
          go_wp2_with fail
          refine (fix_any (Cu.fixAt (Cu.mix a b k)) (Cu.oneAt (Cu.mix a b k)) k w.heap.size (Cu.oneAt b k) w5 h128 J5.out.t).mono ?_
          rintro e w6 ⟨rfl, hT, g6⟩
          rw [← Cu.fix_next HS.out HL.out HK.out HC.out, ← Cu.one_next HS.out HL.out HK.out HC.out] at hT
          have J6 : Hid _ := J5.out.fixT g6 hT
          clear hT g6
          go_wp2
          go_roundw
          case rel =>
            refine ⟨k + 1, by omega, by go_num, ?_⟩
            rw [Cu.cutTo, HC.out, if_pos rfl, flat_append, flat_one, List.length_append, List.length_singleton, ← Nat.add_assoc]
            exact J6.out
          case measure => simp [intOf]; omega
      · have hf : Cu.fixAt (Cu.mix a b k) k = true := HF.out.trans hfa
        have HC : Hid (Cu.cond a b k = false) := by show _ = _; simp [Cu.cond, hfa]
        clear hfa
        go_wp2_with fail
        refine (has_any (Cu.fixAt (Cu.mix a b k)) k _ h128).mono ?_
        rintro e w1 ⟨rfl, hb1⟩
        have J1 : Hid _ := J0.out.below hb1
        clear t0 t1 t2 t3
        go_wp2
        go_roundw
        case rel =>
          refine ⟨k + 1, by omega, by go_num, ?_⟩
          rw [Cu.mix_same HS.out HSB.out HL.out HK.out HC.out, Cu.cutTo, HC.out, if_neg (by simp), List.append_nil]
          exact J1.out
        case measure => simp [intOf]; omega
    · have hkw : k = width := by omega
      subst hkw
      go_wp2
      go_ret
      refine ⟨u3, rfl, J0.out.own, J0.out.grown, ?_⟩
      rcases J0.out.place with e | ⟨g, e, hg⟩
      · exact Or.inl e
      · exact Or.inr ⟨g, e, by omega⟩
end Go.Proofs.YtipmlcdnfaobiaaGreat.Cub
namespace Go.Proofs.YtipmlcdnfaobiaaGreat.Cub
open Go.RowKit

theorem Tryz.infoString : (Tryz.prog.info? 9).map (fun i => (i.zero, i.size, i.bytes)) = some (some (.string ByteArray.empty), 1, 16) := by kernel_rfl

/-- The value of a text. -/
abbrev sv (l : List UInt8) : Value := .string ⟨l.toArray⟩
/-- Cells in which the first k texts lie. -/
def lieS (cs : Array Value) (k : Nat) (L : Nat → List UInt8) : Prop := ∀ j, j < k → cs[j]? = some (sv (L j))
theorem lieS_zero (cs : Array Value) (L : Nat → List UInt8) : lieS cs 0 L := fun j hj => absurd hj (Nat.not_lt_zero j)
theorem lieS_set {cs : Array Value} {k : Nat} {L : Nat → List UInt8} (h : lieS cs k L) (hk : k < cs.size) : lieS (cs.setIfInBounds k (sv (L k))) (k + 1) L := by
  intro j hj
  rw [Array.getElem?_setIfInBounds]
  by_cases e : k = j
  · subst e; rw [if_pos rfl, if_pos hk]
  · rw [if_neg e]; exact h j (by omega)
def madeS (n : Nat) : Array Value := madeCells #[.string ByteArray.empty] n
theorem madeS_size (n : Nat) : (madeS n).size = n := size_madeCells _ _

theorem rel_texts {w wr w1 : World} {cs : Array Value} {n k : Nat} {L : Nat → List UInt8} (h0 : wr.heap[w.heap.size]? = some (.cells cs 9 (0, 0)))
    (hsz : cs.size = n) (hlie : lieS cs k L) (hlt : k < n) (hbl : Below w.heap.size w wr) (hb1 : Below wr.heap.size wr w1) :
      (∃ cs, (w1.setCell ⟨w.heap.size, k, none⟩ (sv (L k))).heap[w.heap.size]? = some (.cells cs 9 (0, 0)) ∧ cs.size = n ∧ lieS cs (k + 1) L) ∧
      Below w.heap.size w (w1.setCell ⟨w.heap.size, k, none⟩ (sv (L k))) := by
  have hs := hbl.size
  exact ⟨⟨_, block_set _ (below_block hb1 h0 (lt_of_block h0)), by simp [hsz], lieS_set hlie (by omega)⟩, (hbl.trans (hb1.mono hs)).setCell (by simp) _⟩

set_option maxHeartbeats 1000000 in
theorem texts_none (ao : Option Addr) (cap width : Nat) (w : World) :
    Calls Tryz.prog 60 #[.slice ao 0 cap, .int .i64 (width : Int)] w fun e w' => e = .returned (.slice (some ⟨w.heap.size, 0, none⟩) 0 0) ∧ w'.heap[w.heap.size]? = some (.cells (madeS 0) 9 (0, 0)) ∧ Below w.heap.size w w' := by
  have hmk : ∀ w : World, (Instr.makeSlice 39 (.int .i64 0) (.int .i64 0)).run Tryz.prog w = .ok (.slice (some ⟨w.heap.size, 0, none⟩) 0 0) (w.alloc (.cells (madeS 0) 9)) :=
    run_make_row' (P := Tryz.prog) 39 9 (.string ByteArray.empty) 16 Tryz.underlying39 Tryz.infoString rfl .i64 .i64 0 (by omega) (by omega)
  go_enter Tryz.func60, Tryz.ntmps60
  go_wp2
  refine wp_loop_rounds 1 ?_
  rw [rounds_succ]
  go_wp2
  go_ret
  exact ⟨rfl, new_0 _ _, (Below.refl _ _).alloc (Nat.le_refl _) _⟩

set_option maxHeartbeats 1000000 in
theorem texts_some (L : Nat → List UInt8) (g n cap width : Nat) (w : World) (hg : g < w.heap.size) (hn : n ≤ 1000000)
    (hc : ∀ i, i < n → ∀ j, j < 4 → w.cell? ⟨g, i * 4 + j, none⟩ = (tc (L i))[j]?) (hr : ∀ i, i < n → Cu.right (L i) = true ∧ (L i).length = width) :
    Calls Tryz.prog 60 #[.slice (some ⟨g, 0, none⟩) n cap, .int .i64 (width : Int)] w fun e w' => e = .returned (.slice (some ⟨w.heap.size, 0, none⟩) n n) ∧ (∃ cs, w'.heap[w.heap.size]? = some (.cells cs 9 (0, 0)) ∧ cs.size = n ∧ lieS cs n L) ∧ Below w.heap.size w w' := by
  have hmk := run_make_row' (P := Tryz.prog) 39 9 (.string ByteArray.empty) 16 Tryz.underlying39 Tryz.infoString rfl .i64 .i64 n (by omega) (by omega)
  rw [show madeCells #[.string ByteArray.empty] n = madeS n from rfl] at hmk
  have HC : Hid (∀ i, i < n → ∀ j, j < 4 → w.cell? ⟨g, i * 4 + j, none⟩ = (tc (L i))[j]?) := hc
  have HR : Hid (∀ i, i < n → Cu.right (L i) = true ∧ (L i).length = width) := hr
  clear hc hr
  go_enter Tryz.func60, Tryz.ntmps60
  go_wp2
  go_loopw [13] (fun i wr => ∃ k : Nat, k ≤ n ∧ i = .int .i64 k ∧ (∃ cs, wr.heap[w.heap.size]? = some (.cells cs 9 (0, 0)) ∧ cs.size = n ∧ lieS cs k L) ∧ Below w.heap.size w wr)
    (fun i _ => n - (intOf i).toNat)
  case atStart => exact ⟨0, Nat.zero_le _, rfl, ⟨madeS n, new_0 _ _, madeS_size n, lieS_zero _ _⟩, (Below.refl _ _).alloc (Nat.le_refl _) _⟩
  case round =>
    obtain ⟨k, hk, rfl, ⟨cs, h0, hsz, hlie⟩, hbl⟩ := hrel
    have H0 : Hid _ := h0
    have hlt0 := lt_of_block h0
    clear h0
    by_cases hlt : k < n
    · have t0 : wr.cell? ⟨g, k * 4, none⟩ = some (.int .u64 (Cu.wd (Cu.fixAt (L k)) 0 : Int)) := by rw [hbl.cell (by exact hg)]; exact HC.out k hlt 0 (by omega)
      have t1 : wr.cell? ⟨g, k * 4 + 1, none⟩ = some (.int .u64 (Cu.wd (Cu.fixAt (L k)) 1 : Int)) := by rw [hbl.cell (by exact hg)]; exact HC.out k hlt 1 (by omega)
      have t2 : wr.cell? ⟨g, k * 4 + 2, none⟩ = some (.int .u64 (Cu.wd (Cu.oneAt (L k)) 0 : Int)) := by rw [hbl.cell (by exact hg)]; exact HC.out k hlt 2 (by omega)
      have t3 : wr.cell? ⟨g, k * 4 + 3, none⟩ = some (.int .u64 (Cu.wd (Cu.oneAt (L k)) 1 : Int)) := by rw [hbl.cell (by exact hg)]; exact HC.out k hlt 3 (by omega)
      go_wp2_with fail
      refine (text_any (L k) width _ (HR.out k hlt).1 (HR.out k hlt).2).mono ?_
      rintro e w1 ⟨rfl, hb1⟩
      have hb1' : Below wr.heap.size wr w1 := ((Below.refl _ _).alloc (Nat.le_refl _) _).trans (hb1.mono (by simp))
      have HB : Hid _ := below_block hb1' H0.out hlt0
      obtain ⟨y, hy⟩ := cells_some HB.out (x := k) (by omega)
      have f : w1.frozen? ⟨w.heap.size, k, none⟩ = false := free_of HB.out
      clear t0 t1 t2 t3
      go_wp2
      go_roundw
      case rel =>
        have R := rel_texts H0.out hsz hlie hlt hbl hb1'
        exact ⟨k + 1, by omega, by go_num, R.1, R.2⟩
      case measure => simp [intOf]; omega
    · have hkn : k = n := by omega
      subst hkn
      go_wp2
      go_ret
      exact ⟨rfl, ⟨cs, H0.out, hsz, hlie⟩, hbl⟩
end Go.Proofs.YtipmlcdnfaobiaaGreat.Cub
namespace Go.Proofs.YtipmlcdnfaobiaaGreat.Cub
open Go.RowKit
attribute [local go_sem ↓] Go.wp_at_zero Go.wp_at_succ

/-- A slice of texts in a block: the first cells of the block are ls. -/
def Texts (w : World) (v : Value) (ls : List (List UInt8)) : Prop :=
  ∃ g cap cs, v = .slice (some ⟨g, 0, none⟩) ls.length cap ∧ w.heap[g]? = some (.cells cs 9 (0, 0)) ∧ ∀ i (h : i < ls.length), cs[i]? = some (sv ls[i])

theorem Texts.below {w w' : World} {v : Value} {ls : List (List UInt8)} (h : Texts w v ls) (hb : Below w.heap.size w w') : Texts w' v ls := by
  obtain ⟨g, cap, cs, e, hg, hc⟩ := h
  exact ⟨g, cap, cs, e, below_block hb hg (lt_of_block hg), hc⟩

/-- The cells of a row of ternaries. -/
theorem flat_get (ls : List (List UInt8)) : ∀ i (h : i < ls.length) j, j < 4 → (flat ls)[i * 4 + j]? = (tc ls[i])[j]? := by
  induction ls with
  | nil => intro i h; simp at h
  | cons l ls ih =>
    intro i h j hj
    have e : flat (l :: ls) = (tc l).toList ++ flat ls := by rw [show l :: ls = [l] ++ ls from rfl, flat_append, flat_one]
    have hl : (tc l).toList.length = 4 := rfl
    rw [e]
    cases i with
    | zero => rw [List.getElem?_append_left (by rw [hl]; omega)]; simp
    | succ i =>
      rw [List.getElem?_append_right (by rw [hl]; omega), hl, show (i + 1) * 4 + j - 4 = i * 4 + j from by omega]
      exact ih i (by simpa using h) j hj

/-- texts, of a row that the call itself has made. -/
theorem texts_own (ls : List (List UInt8)) (v : Value) (base n width : Nat) (w : World) (hown : w.ownsRow base 108 4 v n (flat ls)) (hn : n = ls.length) (hm : n ≤ 1000000)
    (hr : ∀ l ∈ ls, Cu.right l = true ∧ l.length = width) :
    Calls Tryz.prog 60 #[v, .int .i64 (width : Int)] w fun e w' => ∃ v', e = .returned v' ∧ Texts w' v' ls ∧ Below w.heap.size w w' := by
  subst hn
  cases ls with
  | nil =>
    have hv : ∃ ao cap, v = .slice ao 0 cap := by
      rcases hown.2 with ⟨e, _⟩ | ⟨g, cap, cur, e, _⟩
      · exact ⟨_, _, e⟩
      · exact ⟨_, _, e⟩
    obtain ⟨ao, cap, rfl⟩ := hv
    refine (texts_none ao cap width w).mono ?_
    rintro e w' ⟨rfl, h, hb⟩
    exact ⟨_, rfl, ⟨w.heap.size, 0, madeS 0, rfl, h, fun i hi => by simp at hi⟩, hb⟩
  | cons l ls =>
    have hown' := hown
    rcases hown.2 with ⟨_, e⟩ | ⟨g, cap, cur, rfl, hbg, hg, _⟩
    · simp at e
    · have := texts_some (fun i => (l :: ls).getD i []) g (l :: ls).length cap width w (lt_of_block hg) hm ?_ ?_
      · refine this.mono ?_
        rintro e w' ⟨rfl, ⟨cs, h, hs, hl⟩, hb⟩
        refine ⟨_, rfl, ⟨w.heap.size, (l :: ls).length, cs, rfl, h, fun i hi => ?_⟩, hb⟩
        rw [hl i hi]
        simp only [List.getD_eq_getElem?_getD, List.getElem?_eq_getElem hi, Option.getD_some]
      · intro i hi j hj
        rw [hown'.cellAt (i * 4 + j) (by omega)]
        rw [flat_get _ i hi j hj]
        simp only [List.getD_eq_getElem?_getD, List.getElem?_eq_getElem hi, Option.getD_some]
      · intro i hi
        simp only [List.getD_eq_getElem?_getD, List.getElem?_eq_getElem hi, Option.getD_some]
        exact hr _ (List.getElem_mem hi)

/-- cut, in both cases. -/
theorem cut_any (a b : List UInt8) (width : Nat) (v : Value) (n : Nat) (xs : List Value) (base : Nat) (w : World) (ha : Cu.right a = true) (hb : Cu.right b = true) (h : a.length = b.length) (hw : a.length = width)
    (hown : w.ownsRow base 108 4 v n xs) (hbase : base ≤ w.heap.size) (hn : n ≤ 1000000) :
    Calls Tryz.prog 80 #[tv a, tv b, .int .i64 (width : Int), v] w fun e w' => ∃ v', e = .returned v' ∧ w'.ownsRow base 108 4 v' (n + (Cu.cutL a b).length) (xs ++ flat (Cu.cutL a b)) ∧ w.grownBy w' v.ownBlock ∧
      (v'.ownBlock = v.ownBlock ∨ ∃ g, v'.ownBlock = some g ∧ w.heap.size ≤ g) := by
  rcases bool_two (Cu.meetsB a b) with hm | hm
  · have e : Cu.cutL a b = [a] := by unfold Cu.cutL; rw [hm, if_neg (by simp)]
    rw [e]
    exact cut_apart a b width v n xs base w ha hb h hm hown hbase hn
  · have e : Cu.cutL a b = Cu.cutTo a b width := by unfold Cu.cutL; rw [hm, if_pos rfl, hw]
    rw [e]
    exact cut_meet a b width v n xs base w ha hb h hw hm hown hbase hn

theorem below_of_grown {a b : World} (h : a.grownBy b none) : Below a.heap.size a b := ⟨h.os, h.tape, h.output, h.size, fun i hi => h.block i hi (by simp)⟩

end Go.Proofs.YtipmlcdnfaobiaaGreat.Cub
namespace Go.Proofs.YtipmlcdnfaobiaaGreat.Cub
open Go.RowKit

/-- A slice of texts, wherever it lies; nil and empty ones too. -/
def Row (w : World) (v : Value) (ls : List (List UInt8)) : Prop :=
  ∃ ao cap, v = .slice ao ls.length cap ∧ (ls = [] ∨ ∃ g o, ao = some ⟨g, o, none⟩ ∧ g < w.heap.size ∧ ∀ i (h : i < ls.length), w.cell? ⟨g, o + i, none⟩ = some (sv ls[i]))
theorem Row.nil (w : World) : Row w (.slice none 0 0) [] := ⟨none, 0, rfl, Or.inl rfl⟩
theorem Texts.row {w : World} {v : Value} {ls : List (List UInt8)} (h : Texts w v ls) : Row w v ls := by
  obtain ⟨g, cap, cs, e, hg, hc⟩ := h
  refine ⟨_, cap, e, Or.inr ⟨g, 0, rfl, lt_of_block hg, fun i hi => ?_⟩⟩
  rw [Nat.zero_add]
  unfold World.cell?
  rw [hg]
  exact hc i hi
theorem Row.below {w w' : World} {v : Value} {ls : List (List UInt8)} (h : Row w v ls) {B : Nat} (hb : Below B w w') (hB : w.heap.size ≤ B) : Row w' v ls := by
  obtain ⟨ao, cap, e, hr⟩ := h
  refine ⟨ao, cap, e, ?_⟩
  rcases hr with hr | ⟨g, o, ea, hg, hc⟩
  · exact Or.inl hr
  · exact Or.inr ⟨g, o, ea, Nat.lt_of_lt_of_le hg hb.size, fun i hi => by rw [hb.cell (by show g < B; omega)]; exact hc i hi⟩

set_option maxHeartbeats 400000 in
theorem Texts_len (a1 a2 : Option Addr) (n m c d : Nat) (w : World) (h : n ≠ m) :
    Calls Tryz.prog 41 #[.slice a1 n c, .slice a2 m d] w fun e w' => e = .returned (.bool false) ∧ Below w.heap.size w w' := by
  have hne : ((n : Int) != (m : Int)) = true := by rw [bne_iff_ne]; omega
  go_enter Tryz.func41, Tryz.ntmps41
  go_wp2
  go_ret
  exact ⟨rfl, Below.refl _ _⟩

set_option maxHeartbeats 400000 in
theorem Texts_none (a1 a2 : Option Addr) (c d : Nat) (w : World) :
    Calls Tryz.prog 41 #[.slice a1 0 c, .slice a2 0 d] w fun e w' => e = .returned (.bool true) ∧ Below w.heap.size w w' := by
  go_enter Tryz.func41, Tryz.ntmps41
  go_wp2
  refine wp_loop_rounds 1 ?_
  rw [rounds_succ]
  go_wp2
  go_ret
  exact ⟨rfl, Below.refl _ _⟩

set_option maxHeartbeats 1000000 in
theorem Texts_some (L M : Nat → List UInt8) (g o g' o' n c d : Nat) (w : World) (hn : n ≤ 1000000) (h1 : ∀ i, i < n → w.cell? ⟨g, o + i, none⟩ = some (sv (L i))) (h2 : ∀ i, i < n → w.cell? ⟨g', o' + i, none⟩ = some (sv (M i))) :
    Calls Tryz.prog 41 #[.slice (some ⟨g, o, none⟩) n c, .slice (some ⟨g', o', none⟩) n d] w fun e w' => e = .returned (.bool (decide (∀ i, i < n → L i = M i))) ∧ Below w.heap.size w w' := by
  have H1 : Hid (∀ i, i < n → w.cell? ⟨g, o + i, none⟩ = some (sv (L i))) := h1
  have H2 : Hid (∀ i, i < n → w.cell? ⟨g', o' + i, none⟩ = some (sv (M i))) := h2
  clear h1 h2
  have hne : ((n : Int) != (n : Int)) = false := by simp
  go_enter Tryz.func41, Tryz.ntmps41
  go_wp2
  go_loopw [5] (fun i wr => ∃ k : Nat, k ≤ n ∧ i = .int .i64 k ∧ Hid (∀ i, i < k → L i = M i) ∧ (∀ a, wr.cell? a = w.cell? a) ∧ Below w.heap.size w wr) (fun i _ => n - (intOf i).toNat)
  case atStart => exact ⟨0, Nat.zero_le _, rfl, fun i hi => absurd hi (Nat.not_lt_zero i), fun _ => rfl, Below.refl _ _⟩
  case round =>
    obtain ⟨k, hk, rfl, hsame, hcl, hbl⟩ := hrel
    by_cases hlt : k < n
    · have c1 : wr.cell? ⟨g, o + k, none⟩ = some (sv (L k)) := (hcl _).trans (H1.out k hlt)
      have c2 : wr.cell? ⟨g', o' + k, none⟩ = some (sv (M k)) := (hcl _).trans (H2.out k hlt)
      have HCL : Hid (∀ a, wr.cell? a = w.cell? a) := hcl
      clear hcl
      have hkI : (0 : Int) ≤ (k : Int) := by omega
      have hkI2 : (k : Int) < (n : Int) := by omega
      go_wp2
      go_quiet (fail)
      go_wp2
      · rename_i hx
        have hq : ¬ L k = M k := by simpa using hx
        go_ret
        refine ⟨?_, below_drewN' hbl⟩
        have : decide (∀ i, i < n → L i = M i) = false := decide_eq_false (fun h => hq (h k hlt))
        rw [this]; rfl
      · rename_i hx
        have hq : L k = M k := by simpa using hx
        go_roundw
        case rel =>
          refine ⟨k + 1, by omega, by go_num, fun i hi => ?_, HCL.out, below_drewN' hbl⟩
          by_cases e : i = k
          · rw [e]; exact hq
          · exact hsame.out i (by omega)
        case measure => simp [intOf]; omega
    · have hkn : k = n := by omega
      subst hkn
      clear hcl
      go_wp2
      go_ret
      refine ⟨?_, hbl⟩
      have : decide (∀ i, i < k → L i = M i) = true := decide_eq_true hsame.out
      rw [this]; rfl

theorem list_eq_iff {l m : List (List UInt8)} (h : l.length = m.length) : (∀ i, i < l.length → l.getD i [] = m.getD i []) ↔ l = m := by
  constructor
  · intro H
    apply List.ext_getElem h
    intro i h1 h2
    have := H i h1
    simpa [List.getD_eq_getElem?_getD, List.getElem?_eq_getElem h1, List.getElem?_eq_getElem h2] using this
  · rintro rfl i _; rfl

theorem Texts_rows (v1 v2 : Value) (l1 l2 : List (List UInt8)) (w : World) (h1 : Row w v1 l1) (h2 : Row w v2 l2) (hn : l1.length ≤ 1000000) :
    Calls Tryz.prog 41 #[v1, v2] w fun e w' => e = .returned (.bool (decide (l1 = l2))) ∧ Below w.heap.size w w' := by
  obtain ⟨a1, c1, rfl, r1⟩ := h1
  obtain ⟨a2, c2, rfl, r2⟩ := h2
  by_cases hl : l1.length = l2.length
  · rcases r1 with rfl | ⟨g, o, rfl, _, hc1⟩
    · have e2 : l2 = [] := by cases l2 with | nil => rfl | cons => simp at hl
      subst e2
      exact Texts_none a1 a2 c1 c2 w
    · rcases r2 with rfl | ⟨g', o', rfl, _, hc2⟩
      · have e1 : l1 = [] := by cases l1 with | nil => rfl | cons => simp at hl
        subst e1
        exact Texts_none _ a2 c1 c2 w
      · have := Texts_some (fun i => l1.getD i []) (fun i => l2.getD i []) g o g' o' l1.length c1 c2 w hn
          (fun i hi => by rw [hc1 i hi]; simp only [List.getD_eq_getElem?_getD, List.getElem?_eq_getElem hi, Option.getD_some])
          (fun i hi => by have hi' : i < l2.length := hl ▸ hi
                          rw [hc2 i hi']; simp only [List.getD_eq_getElem?_getD, List.getElem?_eq_getElem hi', Option.getD_some])
        rw [← hl]
        refine this.mono ?_
        rintro e w' ⟨rfl, hb⟩
        refine ⟨?_, hb⟩
        congr 2
        exact decide_eq_decide.2 (list_eq_iff hl)
  · have : decide (l1 = l2) = false := decide_eq_false (fun e => hl (by rw [e]))
    rw [this]
    exact Texts_len a1 a2 _ _ c1 c2 w hl

theorem Row.two (w : World) (x y : List UInt8) : Row (w.alloc (.cells #[sv x, sv y] 9)) (.slice (some ⟨w.heap.size, 0, none⟩) 2 2) [x, y] := by
  refine ⟨_, 2, rfl, Or.inr ⟨w.heap.size, 0, rfl, by simp, fun i hi => ?_⟩⟩
  have h := new_0 w (.cells #[sv x, sv y] 9)
  have : i = 0 ∨ i = 1 := by simp at hi; omega
  unfold World.cell?
  rcases this with rfl | rfl <;> (rw [h]; rfl)

end Go.Proofs.YtipmlcdnfaobiaaGreat.Cub
namespace Go.Proofs.YtipmlcdnfaobiaaGreat.Cub
open Go.RowKit

def okB (a b : ByteArray) : Bool := decide (err2 a b = 0) && Cu.meetsB a.data.toList b.data.toList
def meetS (a b : ByteArray) : ByteArray := if okB a b = true then ⟨(Cu.meetL a.data.toList b.data.toList).toArray⟩ else ByteArray.empty
def insB (a b : ByteArray) : Bool := decide (err2 a b = 0) && Cu.insideB a.data.toList b.data.toList

theorem err2_zero {a b : ByteArray} (h : err2 a b = 0) : Cu.right a.data.toList = true ∧ Cu.right b.data.toList = true ∧ a.size = b.size := by
  unfold err2 at h
  split at h
  · rename_i h1
    split at h
    · rename_i h2; exact ⟨h1.1, h1.2, h2⟩
    · cases h
  · cases h
theorem err2_of {a b : ByteArray} (ha : Cu.right a.data.toList = true) (hb : Cu.right b.data.toList = true) (hs : a.size = b.size) : err2 a b = 0 := by
  unfold err2; rw [if_pos ⟨ha, hb⟩, if_pos hs]
theorem err2_comm (a b : ByteArray) : err2 b a = err2 a b := by
  unfold err2
  by_cases h : Cu.right a.data.toList = true ∧ Cu.right b.data.toList = true
  · rw [if_pos h, if_pos h.symm]
    by_cases hs : a.size = b.size
    · rw [if_pos hs, if_pos hs.symm]
    · rw [if_neg hs, if_neg (fun e => hs e.symm)]
  · rw [if_neg h, if_neg (fun e => h e.symm)]

theorem Inside_any (a b : ByteArray) (w : World) :
    Calls Tryz.prog 76 #[.string a, .string b] w fun e w' => e = .returned (.tuple #[.bool (insB a b), .int .i64 (err2 a b)]) ∧ Below w.heap.size w w' := by
  by_cases h : err2 a b = 0
  · obtain ⟨ha, hb, hs⟩ := err2_zero h
    have e1 : insB a b = Cu.insideB a.data.toList b.data.toList := by simp [insB, h]
    rw [e1, h]
    exact Inside_ok a b w ha hb hs
  · have e1 : insB a b = false := by simp [insB, h]
    rw [e1]
    exact Inside_bad a b w h

theorem meetsB_comm {a b : List UInt8} (h : a.length = b.length) : Cu.meetsB b a = Cu.meetsB a b := by
  rw [Bool.eq_iff_iff, Cu.meetsB, Cu.meetsB, Cu.zip_all h.symm, Cu.zip_all h]
  constructor
  · intro H i hi
    have := H i (h ▸ hi)
    simp only [Bool.or_eq_true, beq_iff_eq] at this ⊢
    rcases this with (e | e) | e
    · exact Or.inl (Or.inl e.symm)
    · exact Or.inr e
    · exact Or.inl (Or.inr e)
  · intro H i hi
    have := H i (h ▸ hi)
    simp only [Bool.or_eq_true, beq_iff_eq] at this ⊢
    rcases this with (e | e) | e
    · exact Or.inl (Or.inl e.symm)
    · exact Or.inr e
    · exact Or.inl (Or.inr e)
theorem meetL_comm {a b : List UInt8} (h : a.length = b.length) (hm : Cu.meetsB a b = true) : Cu.meetL b a = Cu.meetL a b := by
  apply List.ext_getElem (by rw [Cu.meetL_length h, Cu.meetL_length h.symm, h])
  intro i h1 h2
  have hi : i < a.length := by rw [Cu.meetL_length h] at h2; exact h2
  rw [Cu.meetL_at h i hi, Cu.meetL_at h.symm i (h ▸ hi)]
  unfold Cu.meetsB at hm
  have := (Cu.zip_all h _).1 hm i hi
  simp only [Bool.or_eq_true, beq_iff_eq] at this
  rcases this with (e | e) | e
  · rw [e]
  · rw [if_pos (beq_iff_eq.2 e)]
    split
    · rename_i e2; rw [beq_iff_eq] at e2; rw [e, e2]
    · rfl
  · rw [if_pos (beq_iff_eq.2 e)]
    split
    · rename_i e2; rw [beq_iff_eq] at e2; rw [e, e2]
    · rfl
theorem okB_comm (a b : ByteArray) : okB b a = okB a b := by
  unfold okB
  rw [err2_comm]
  by_cases h : err2 a b = 0
  · obtain ⟨_, _, hs⟩ := err2_zero h
    rw [meetsB_comm hs]
  · simp [h]
theorem meetS_comm (a b : ByteArray) : meetS b a = meetS a b := by
  unfold meetS
  rw [okB_comm]
  by_cases h : okB a b = true
  · rw [if_pos h, if_pos h]
    simp only [okB, Bool.and_eq_true, decide_eq_true_eq] at h
    obtain ⟨_, _, hs⟩ := err2_zero h.1
    rw [meetL_comm hs h.2]
  · rw [if_neg h, if_neg h]

theorem meetS_data {a b : ByteArray} (h : okB a b = true) : (meetS a b).data.toList = Cu.meetL a.data.toList b.data.toList := by
  unfold meetS; rw [if_pos h]
theorem okB_zero {a b : ByteArray} (h : okB a b = true) : err2 a b = 0 ∧ Cu.meetsB a.data.toList b.data.toList = true := by
  simp only [okB, Bool.and_eq_true, decide_eq_true_eq] at h; exact h
theorem insB_zero {a b : ByteArray} (h : insB a b = true) : err2 a b = 0 ∧ Cu.insideB a.data.toList b.data.toList = true := by
  simp only [insB, Bool.and_eq_true, decide_eq_true_eq] at h; exact h

theorem inside_both {a b c : List UInt8} (hab : a.length = b.length) (hca : c.length = a.length) (h1 : Cu.insideB c a = true) (h2 : Cu.insideB c b = true) :
    Cu.meetsB a b = true ∧ Cu.insideB c (Cu.meetL a b) = true := by
  unfold Cu.insideB at h1 h2
  rw [Cu.zip_all hca] at h1
  rw [Cu.zip_all (hca.trans hab)] at h2
  refine ⟨?_, ?_⟩
  · unfold Cu.meetsB
    rw [Cu.zip_all hab]
    intro i hi
    have e1 := h1 i (by omega)
    have e2 := h2 i (by omega)
    simp only [Bool.or_eq_true, beq_iff_eq] at e1 e2 ⊢
    rcases e1 with e1 | e1
    · rcases e2 with e2 | e2
      · exact Or.inl (Or.inl (e1.symm.trans e2))
      · exact Or.inr e2
    · exact Or.inl (Or.inr e1)
  · unfold Cu.insideB
    rw [Cu.zip_all (hca.trans (Cu.meetL_length hab).symm)]
    intro i hi
    have e1 := h1 i hi
    have e2 := h2 i hi
    rw [Cu.meetL_at hab i (by omega)]
    simp only [Bool.or_eq_true, beq_iff_eq] at e1 e2 ⊢
    split
    · exact e2
    · rename_i hne
      rcases e1 with e1 | e1
      · exact Or.inl e1
      · exact absurd e1 hne

theorem inside_meet {a b c : ByteArray} (h0 : err2 a b = 0) (h1 : insB c a = true) (h2 : insB c b = true) : okB a b = true ∧ insB c (meetS a b) = true ∧ err2 c (meetS a b) = 0 := by
  obtain ⟨ha, hb, hs⟩ := err2_zero h0
  obtain ⟨e1, i1⟩ := insB_zero h1
  obtain ⟨e2, i2⟩ := insB_zero h2
  obtain ⟨hc, _, hsc⟩ := err2_zero e1
  obtain ⟨m1, m2⟩ := inside_both hs hsc i1 i2
  have ho : okB a b = true := by simp [okB, h0, m1]
  have hz : err2 c (meetS a b) = 0 := by
    refine err2_of hc ?_ ?_
    · rw [meetS_data ho]; exact Cu.meetL_right ha hb hs
    · show c.size = (meetS a b).data.toList.length
      rw [meetS_data ho, Cu.meetL_length hs]; exact hsc
  refine ⟨ho, ?_, hz⟩
  rw [insB, hz, meetS_data ho, m2]; rfl
end Go.Proofs.YtipmlcdnfaobiaaGreat.Cub
