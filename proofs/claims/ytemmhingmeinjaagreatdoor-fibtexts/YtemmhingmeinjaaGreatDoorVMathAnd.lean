/-
  The laws WordsSay and WordsBack: of any texts they answer true.
-/
import Derived.Test.YtemmhingmeinjaaGreatDoorUCopyAnd
import Derived.Test.YtemmhingmeinjaaGreatDoorUChkAAnd
import Derived.Test.YtemmhingmeinjaaGreatDoorURdsAAnd
import Derived.Test.YtemmhingmeinjaaGreatDoorUDocBAnd
import Derived.BigQuiet
import Derived.Shelf.SlSorted.Search
import Derived.Test.YtemmhingmeinjaaGreatDoorWRefSAnd
namespace Go.Proofs.YtemmhingmeinjaaGreatDoor
open Go.RowKit

theorem below_2 {w w1 w2 : World} (h1 : Below w.heap.size w w1) (h2 : Below w1.heap.size w1 w2) : Below w.heap.size w w2 := h1.trans (h2.mono h1.size)
abbrev panE (e : Int) : List PanicEntry := [{ v := .iface 28 (.int .i64 e), recovered := false }]
def okActB (k : Int) (ps : List (List UInt8)) : Bool := (decide (k = 1 ∨ k = 2) && ps.isEmpty) || (decide (k = 3 ∨ k = 4) && (decide (1 ≤ ps.length) && decide (ps.length ≤ 64) && ps.all Wo.nameB && decide (ps.Pairwise (· < ·))))
theorem okActB_iff {k : Int} {ps : List (List UInt8)} : okActB k ps = true ↔ okAct k ps := by
  unfold okActB okAct okPorts Ru.Rise
  simp only [Bool.or_eq_true, Bool.and_eq_true, decide_eq_true_eq, List.isEmpty_iff, List.all_eq_true]
  constructor
  · rintro (h | ⟨h1, ⟨⟨h2, h3⟩, h4⟩, h5⟩)
    · exact Or.inl h
    · exact Or.inr ⟨h1, h2, h3, h4, h5⟩
  · rintro (h | ⟨h1, h2, h3, h4, h5⟩)
    · exact Or.inl h
    · exact Or.inr ⟨h1, ⟨⟨h2, h3⟩, h4⟩, h5⟩
def errR (W : Int) (r : Raw) : Int :=
  if ¬ (1 ≤ W ∧ W ≤ 128) ∨ r.prio < 0 ∨ 2147483647 < r.prio then 1
  else if Cub.Cu.right r.mat = false then 10
  else if (r.mat.length : Int) ≠ W then 11
  else if okActB r.kind r.ports = false then 51 else 0
theorem errR_ok {W : Int} {r : Raw} : errR W r = 0 ↔ okRule W r.prio r.mat r.kind r.ports := by
  unfold errR
  by_cases h1 : ¬ (1 ≤ W ∧ W ≤ 128) ∨ r.prio < 0 ∨ 2147483647 < r.prio
  · rw [if_pos h1]
    refine ⟨fun h => absurd h (by decide), fun h => ?_⟩
    have := h.wide
    have := h.prio
    omega
  rw [if_neg h1]
  by_cases h2 : Cub.Cu.right r.mat = false
  · rw [if_pos h2]
    refine ⟨fun h => absurd h (by decide), fun h => ?_⟩
    have := h.cube
    rw [h2] at this
    cases this
  rw [if_neg h2]
  by_cases h3 : (r.mat.length : Int) ≠ W
  · rw [if_pos h3]
    exact ⟨fun h => absurd h (by decide), fun h => absurd h.len h3⟩
  rw [if_neg h3]
  by_cases h4 : okActB r.kind r.ports = false
  · rw [if_pos h4]
    refine ⟨fun h => absurd h (by decide), fun h => ?_⟩
    have := okActB_iff.2 h.act
    rw [h4] at this
    cases this
  rw [if_neg h4]
  refine ⟨fun _ => ⟨by omega, by omega, by simpa using h2, by omega, okActB_iff.1 (by simpa using h4)⟩, fun _ => rfl⟩
theorem errR_small {W : Int} {r : Raw} (h : errR W r = 0) : Small r.mat r.ports ∧ r.ports.length ≤ 64 ∧ r.mat.length ≤ 128 ∧ ∀ p ∈ r.ports, p.length ≤ 64 := by
  have h := errR_ok.1 h
  have hm : r.mat.length ≤ 128 := by have := h.len; have := h.wide; omega
  have hp : r.ports.length ≤ 64 ∧ ∀ p ∈ r.ports, p.length ≤ 64 := by
    rcases h.act with ⟨_, e⟩ | ⟨_, _, h2, h3, _⟩
    · rw [e]; exact ⟨by simp, fun p hp => by cases hp⟩
    · exact ⟨h2, fun p hp => nameB_short (h3 p hp)⟩
  exact ⟨⟨by omega, by omega, fun z hz => by have := hp.2 z hz; omega⟩, hp.1, hm, hp.2⟩

def keyB (a b : Raw) : Bool := decide (a.prio = b.prio ∧ a.mat = b.mat)
theorem keyB_iff {a b : Raw} : keyB a b = true ↔ sameKey a b := by unfold keyB sameKey; simp
theorem cmpR_same {a b : Raw} (h : sameKey a b) : cmpR a b = 0 := by
  unfold cmpR cmpI cmpL
  rw [h.1, h.2]
  simp [List.lt_irrefl]
theorem keyB_cmp {a b : Raw} : keyB a b = true ↔ cmpR a b = 0 := keyB_iff.trans ⟨cmpR_same, cmpR_zero⟩
theorem cmpR_left {a b : Raw} (h : sameKey a b) (c : Raw) : cmpR a c = cmpR b c := by unfold cmpR; rw [h.1, h.2]
theorem cmpR_right {a b : Raw} (h : sameKey a b) (c : Raw) : cmpR c a = cmpR c b := by unfold cmpR; rw [h.1, h.2]
theorem sameKey.symm {a b : Raw} (h : sameKey a b) : sameKey b a := ⟨h.1.symm, h.2.symm⟩
theorem cmpR_trans {a b c : Raw} (h : cmpR a b < 0) (k : cmpR b c < 0) : cmpR a c < 0 := by
  rw [cmpR_neg] at h k ⊢
  rcases h with h | ⟨h1, h2⟩ <;> rcases k with k | ⟨k1, k2⟩
  · left; omega
  · left; omega
  · left; omega
  · exact Or.inr ⟨by omega, List.lt_trans h2 k2⟩
theorem cmpR_irr {a : Raw} : ¬ cmpR a a < 0 := by rw [cmpR_same ⟨rfl, rfl⟩]; omega
theorem cmpR_asy {a b : Raw} (h : cmpR a b < 0) (k : cmpR b a < 0) : False := cmpR_irr (cmpR_trans h k)
theorem cmpR_eq {a b : Raw} (h : ¬ cmpR a b < 0) (k : ¬ cmpR b a < 0) : sameKey a b := cmpR_zero (by have : ¬ 0 < cmpR a b := fun q => k (cmpR_pos.1 q); omega)

def Srt (L : List Raw) : Prop := L.Pairwise fun a b => cmpR a b < 0
structure PlaceAt (L : List Raw) (r : Raw) (k : Nat) : Prop where
  le : k ≤ L.length
  lo : ∀ a ∈ L.take k, cmpR a r < 0
  hi : ∀ a ∈ L.drop k, ¬ cmpR a r < 0
def putR (L : List Raw) (r : Raw) : List Raw := L.filter (fun a => decide (cmpR a r < 0)) ++ r :: L.filter (fun a => !decide (cmpR a r < 0))
def rmR (L : List Raw) (r : Raw) : List Raw := L.filter fun a => !keyB a r
def mdR (L : List Raw) (r : Raw) : List Raw := L.map fun a => if keyB a r = true then r else a
theorem cut_at_ (L : List Raw) (k : Nat) : L = L.take k ++ L.drop k := (List.take_append_drop k L).symm
theorem putR_at {L : List Raw} {r : Raw} {k : Nat} (h : PlaceAt L r k) : putR L r = L.take k ++ r :: L.drop k := by
  have e1 : (L.take k).filter (fun a => decide (cmpR a r < 0)) = L.take k := List.filter_eq_self.2 fun a ha => by simpa using h.lo a ha
  have e2 : (L.drop k).filter (fun a => decide (cmpR a r < 0)) = [] := List.filter_eq_nil_iff.2 fun a ha => by simpa using h.hi a ha
  have e3 : (L.take k).filter (fun a => !decide (cmpR a r < 0)) = [] := List.filter_eq_nil_iff.2 fun a ha => by simpa using h.lo a ha
  have e4 : (L.drop k).filter (fun a => !decide (cmpR a r < 0)) = L.drop k := List.filter_eq_self.2 fun a ha => by simpa using h.hi a ha
  have f1 : L.filter (fun a => decide (cmpR a r < 0)) = L.take k := by
    conv => lhs; rw [cut_at_ L k]
    rw [List.filter_append, e1, e2, List.append_nil]
  have f2 : L.filter (fun a => !decide (cmpR a r < 0)) = L.drop k := by
    conv => lhs; rw [cut_at_ L k]
    rw [List.filter_append, e3, e4, List.nil_append]
  unfold putR
  rw [f1, f2]
theorem cut_mid_ {L : List Raw} {k : Nat} {a : Raw} (h : L[k]? = some a) : L = L.take k ++ a :: L.drop (k + 1) := by
  obtain ⟨hk, e⟩ := List.getElem?_eq_some_iff.1 h
  conv => lhs; rw [cut_at_ L k, List.drop_eq_getElem_cons hk, e]
theorem Srt.mid {L : List Raw} (hs : Srt L) {k : Nat} {a : Raw} (h : L[k]? = some a) : (∀ b ∈ L.take k, cmpR b a < 0) ∧ ∀ b ∈ L.drop (k + 1), cmpR a b < 0 := by
  unfold Srt at hs
  rw [cut_mid_ h] at hs
  obtain ⟨_, h2, h3⟩ := List.pairwise_append.1 hs
  exact ⟨fun b hb => h3 b hb a List.mem_cons_self, fun b hb => (List.pairwise_cons.1 h2).1 b hb⟩
theorem Srt.others {L : List Raw} (hs : Srt L) {k : Nat} {a r : Raw} (h : L[k]? = some a) (hk : keyB a r = true) : (∀ b ∈ L.take k, keyB b r = false) ∧ ∀ b ∈ L.drop (k + 1), keyB b r = false := by
  have hm := hs.mid h
  have hk := keyB_iff.1 hk
  refine ⟨fun b hb => ?_, fun b hb => ?_⟩
  · cases q : keyB b r with
    | false => rfl
    | true =>
      have := hm.1 b hb
      rw [cmpR_right hk, keyB_cmp.1 q] at this
      omega
  · cases q : keyB b r with
    | false => rfl
    | true =>
      have := hm.2 b hb
      rw [cmpR_left hk, cmpR_same (keyB_iff.1 q).symm] at this
      omega
theorem rmR_at {L : List Raw} (hs : Srt L) {k : Nat} {a r : Raw} (h : L[k]? = some a) (hk : keyB a r = true) : rmR L r = L.take k ++ L.drop (k + 1) := by
  obtain ⟨h1, h2⟩ := hs.others h hk
  have e1 : (L.take k).filter (fun a => !keyB a r) = L.take k := List.filter_eq_self.2 fun a ha => by simp [h1 a ha]
  have e2 : (L.drop (k + 1)).filter (fun a => !keyB a r) = L.drop (k + 1) := List.filter_eq_self.2 fun a ha => by simp [h2 a ha]
  unfold rmR
  conv => lhs; rw [cut_mid_ h]
  rw [List.filter_append, e1, List.filter_cons, e2]
  simp [hk]
theorem mdR_at {L : List Raw} (hs : Srt L) {k : Nat} {a r : Raw} (h : L[k]? = some a) (hk : keyB a r = true) : mdR L r = L.take k ++ r :: L.drop (k + 1) := by
  obtain ⟨h1, h2⟩ := hs.others h hk
  have e : ∀ l : List Raw, (∀ b ∈ l, keyB b r = false) → l.map (fun a => if keyB a r = true then r else a) = l := fun l hl => by
    conv => rhs; rw [← List.map_id l]
    refine List.map_congr_left fun b hb => ?_
    rw [hl b hb]; rfl
  unfold mdR
  conv => lhs; rw [cut_mid_ h]
  rw [List.map_append, List.map_cons, e _ h1, e _ h2, if_pos hk]
theorem there_iff {L : List Raw} (hs : Srt L) {r : Raw} {k : Nat} (h : PlaceAt L r k) : L.any (fun a => keyB a r) = true ↔ ∃ a, L[k]? = some a ∧ ¬ cmpR r a < 0 := by
  constructor
  · intro ht
    obtain ⟨a, ha, hk⟩ := List.any_eq_true.1 ht
    have hk := keyB_iff.1 hk
    rw [cut_at_ L k] at ha
    rcases List.mem_append.1 ha with ha | ha
    · have := h.lo a ha
      rw [cmpR_same hk] at this
      omega
    · have hlt : k < L.length := by
        have := List.length_pos_of_mem ha
        rw [List.length_drop] at this
        omega
      refine ⟨L[k], List.getElem?_eq_getElem hlt, fun q => ?_⟩
      have hb := h.hi L[k] (by rw [List.drop_eq_getElem_cons hlt]; exact List.mem_cons_self)
      rw [List.drop_eq_getElem_cons hlt] at ha
      rcases List.mem_cons.1 ha with e | ha
      · rw [← e, cmpR_same hk.symm] at q
        omega
      · have := (hs.mid (List.getElem?_eq_getElem hlt)).2 a ha
        rw [cmpR_right hk] at this
        exact hb this
  · rintro ⟨a, ha, hk⟩
    have hlt := (List.getElem?_eq_some_iff.1 ha).1
    refine List.any_eq_true.2 ⟨a, List.mem_of_getElem? ha, keyB_iff.2 (cmpR_eq (h.hi a ?_) hk)⟩
    rw [List.drop_eq_getElem_cons hlt, (List.getElem?_eq_some_iff.1 ha).2]
    exact List.mem_cons_self
theorem there_key {L : List Raw} {r a : Raw} {k : Nat} (h : PlaceAt L r k) (ha : L[k]? = some a) (hk : ¬ cmpR r a < 0) : keyB a r = true := by
  have hlt := (List.getElem?_eq_some_iff.1 ha).1
  refine keyB_iff.2 (cmpR_eq (h.hi a ?_) hk)
  rw [List.drop_eq_getElem_cons hlt, (List.getElem?_eq_some_iff.1 ha).2]
  exact List.mem_cons_self
theorem putR_perm (L : List Raw) (r : Raw) : (putR L r).Perm (L ++ [r]) := by
  unfold putR
  refine List.perm_middle.trans ?_
  refine List.Perm.trans ?_ (List.perm_append_singleton r L).symm
  refine List.Perm.cons r ?_
  exact List.filter_append_perm _ _
theorem Srt.put {L : List Raw} (hs : Srt L) {r : Raw} (hn : L.any (fun a => keyB a r) = false) : Srt (putR L r) := by
  have hno : ∀ a ∈ L, ¬ sameKey a r := fun a ha q => by
    have := (List.any_eq_true (l := L) (p := fun a => keyB a r)).2 ⟨a, ha, keyB_iff.2 q⟩
    rw [hn] at this
    cases this
  unfold putR Srt
  refine List.pairwise_append.2 ⟨hs.sublist List.filter_sublist, List.pairwise_cons.2 ⟨fun b hb => ?_, hs.sublist List.filter_sublist⟩, fun a ha b hb => ?_⟩
  · obtain ⟨h1, h2⟩ := List.mem_filter.1 hb
    by_cases q : cmpR r b < 0
    · exact q
    · exact absurd (cmpR_eq (by simpa using h2) q) (hno b h1)
  · obtain ⟨h1, h2⟩ := List.mem_filter.1 ha
    have h2 : cmpR a r < 0 := by simpa using h2
    rcases List.mem_cons.1 hb with e | hb
    · rw [e]; exact h2
    · obtain ⟨k1, k2⟩ := List.mem_filter.1 hb
      by_cases q : cmpR r b < 0
      · exact cmpR_trans h2 q
      · exact absurd (cmpR_eq (by simpa using k2) q) (hno b k1)
theorem Srt.rm {L : List Raw} (hs : Srt L) (r : Raw) : Srt (rmR L r) := hs.sublist List.filter_sublist
theorem md_key {a r : Raw} : sameKey (if keyB a r = true then r else a) a := by
  split
  · rename_i h; exact (keyB_iff.1 h).symm
  · exact ⟨rfl, rfl⟩
theorem Srt.md {L : List Raw} (hs : Srt L) (r : Raw) : Srt (mdR L r) := by
  unfold Srt mdR
  rw [List.pairwise_map]
  refine hs.imp fun {a b} h => ?_
  rw [cmpR_left md_key, cmpR_right md_key]
  exact h

def stepN (W : Int) (L : List Raw) (k : Int) (r : Raw) : Except Int (List Raw) :=
  if k = 1 then (if errR W r = 0 then (if L.any (fun a => keyB a r) = true then .error 52 else if 4096 ≤ L.length then .error 3 else .ok (putR L r)) else .error (errR W r))
  else if k = 2 then (if errR W { r with kind := 1, ports := [] } = 0 then (if L.any (fun a => keyB a r) = true then .ok (rmR L r) else .error 60) else .error (errR W { r with kind := 1, ports := [] }))
  else if k = 3 then (if errR W r = 0 then (if L.any (fun a => keyB a r) = true then .ok (mdR L r) else .error 60) else .error (errR W r))
  else .error 61
structure GoodT (W : Int) (L : List Raw) : Prop where
  wide : 1 ≤ W ∧ W ≤ 128
  srt : Srt L
  few : L.length ≤ 4096
  ok : ∀ r ∈ L, errR W r = 0
theorem GoodT.nil {W : Int} (h : 1 ≤ W ∧ W ≤ 128) : GoodT W [] := ⟨h, List.Pairwise.nil, by simp, fun r hr => by cases hr⟩
theorem putR_len (L : List Raw) (r : Raw) : (putR L r).length = L.length + 1 := by rw [(putR_perm L r).length_eq]; simp
theorem GoodT.step {W : Int} {L L' : List Raw} {k : Int} {r : Raw} (h : GoodT W L) (hs : stepN W L k r = .ok L') : GoodT W L' := by
  unfold stepN at hs
  split at hs
  · split at hs
    · rename_i he
      split at hs
      · cases hs
      · rename_i hn
        split at hs
        · cases hs
        · rename_i hl
          cases hs
          refine ⟨h.wide, h.srt.put (by simpa using hn), by rw [putR_len]; omega, fun x hx => ?_⟩
          have := (putR_perm L r).mem_iff.1 hx
          rcases List.mem_append.1 this with q | q
          · exact h.ok x q
          · rw [List.mem_singleton.1 q]; exact he
    · cases hs
  · split at hs
    · split at hs
      · split at hs
        · cases hs
          refine ⟨h.wide, h.srt.rm r, Nat.le_trans (List.length_filter_le _ _) h.few, fun x hx => h.ok x (List.mem_filter.1 hx).1⟩
        · cases hs
      · cases hs
    · split at hs
      · split at hs
        · rename_i he
          split at hs
          · cases hs
            refine ⟨h.wide, h.srt.md r, by unfold mdR; rw [List.length_map]; exact h.few, fun x hx => ?_⟩
            obtain ⟨a, ha, rfl⟩ := List.mem_map.1 hx
            split
            · exact he
            · exact h.ok a ha
          · cases hs
        · cases hs
      · cases hs
def runN (W : Int) : List Raw → List (Int × Raw) → Nat → Except (Nat × Int) (List Raw)
  | L, [], _ => .ok L
  | L, c :: cs, i => match stepN W L c.1 c.2 with
    | .error e => .error (i, e)
    | .ok L' => runN W L' cs (i + 1)
theorem GoodT.run {W : Int} {cs : List (Int × Raw)} : ∀ {L L' : List Raw} {i : Nat}, GoodT W L → runN W L cs i = .ok L' → GoodT W L' := by
  induction cs with
  | nil => intro L L' i h hr; cases hr; exact h
  | cons c cs ih =>
    intro L L' i h hr
    unfold runN at hr
    split at hr
    · cases hr
    · rename_i L1 h1
      exact ih (h.step h1) hr
end Go.Proofs.YtemmhingmeinjaaGreatDoor
namespace Go.Proofs.YtemmhingmeinjaaGreatDoor
open Go.RowKit

theorem errR_arg {W : Int} {r : Raw} (h : ¬ (1 ≤ W ∧ W ≤ 128) ∨ r.prio < 0 ∨ 2147483647 < r.prio) : errR W r = 1 := by unfold errR; rw [if_pos h]
theorem errR_cube {W : Int} {r : Raw} (h : ¬ (¬ (1 ≤ W ∧ W ≤ 128) ∨ r.prio < 0 ∨ 2147483647 < r.prio)) (h2 : ¬ Cub.Cu.right r.mat = true) : errR W r = 10 := by unfold errR; rw [if_neg h, if_pos (by simpa using h2)]
theorem errR_width {W : Int} {r : Raw} (h : ¬ (¬ (1 ≤ W ∧ W ≤ 128) ∨ r.prio < 0 ∨ 2147483647 < r.prio)) (h2 : Cub.Cu.right r.mat = true) (h3 : (r.mat.length : Int) ≠ W) : errR W r = 11 := by unfold errR; rw [if_neg h, if_neg (by simp [h2]), if_pos h3]
theorem errR_act {W : Int} {r : Raw} (h : ¬ (¬ (1 ≤ W ∧ W ≤ 128) ∨ r.prio < 0 ∨ 2147483647 < r.prio)) (h2 : Cub.Cu.right r.mat = true) (h3 : (r.mat.length : Int) = W) (h4 : ¬ okAct r.kind r.ports) : errR W r = 51 := by
  unfold errR
  rw [if_neg h, if_neg (by simp [h2]), if_neg (by simp [h3]), if_pos (by cases q : okActB r.kind r.ports with | false => rfl | true => exact absurd (okActB_iff.1 q) h4)]

set_option maxRecDepth 4000 in
set_option maxHeartbeats 2000000 in
theorem CheckN_any {w : World} {W p k : Int} {m : List UInt8} {v : Value} {ps : List (List UInt8)} (ht : Txs w v ps) (hz : ∀ p ∈ ps, p.length ≤ maxLen) :
    Calls Tryz.prog 32 #[.agg #[.int .i64 p, .string (tx m), .int .i64 k, v], .int .i64 W] w fun en w' => en = .returned (.int .i64 (errR W ⟨p, m, k, ps⟩)) ∧ Below w.heap.size w w' := by
  have HT := hid ht
  obtain ⟨ao, cap, rfl, _⟩ := ht
  have HW := hid (isWidth_any W)
  by_cases hw : 1 ≤ W ∧ W ≤ 128
  case neg =>
    rw [decide_eq_false hw] at HW
    rw [errR_arg (Or.inl hw)]
    go_enter Tryz.func32, Tryz.ntmps32
    go_wp2_with fail
    refine (HW.out _).mono ?_
    rintro en w1 ⟨rfl, rfl⟩
    go_wp2
    go_ret
    exact ⟨rfl, (Below.refl _ _).alloc (Nat.le_refl _) _⟩
  rw [decide_eq_true hw] at HW
  by_cases hp0 : p < 0
  · rw [errR_arg (Or.inr (Or.inl hp0))]
    go_enter Tryz.func32, Tryz.ntmps32
    go_wp2_with fail
    refine (HW.out _).mono ?_
    rintro en w1 ⟨rfl, rfl⟩
    go_wp2
    go_ret
    exact ⟨rfl, (Below.refl _ _).alloc (Nat.le_refl _) _⟩
  by_cases hp1 : 2147483647 < p
  · rw [errR_arg (Or.inr (Or.inr hp1))]
    go_enter Tryz.func32, Tryz.ntmps32
    go_wp2_with fail
    refine (HW.out _).mono ?_
    rintro en w1 ⟨rfl, rfl⟩
    go_wp2
    go_ret
    exact ⟨rfl, (Below.refl _ _).alloc (Nat.le_refl _) _⟩
  have HA := hid (show ¬ (¬ (1 ≤ W ∧ W ≤ 128) ∨ p < 0 ∨ 2147483647 < p) by omega)
  have HCK := hid (fun w' => uCheck m w')
  by_cases hm : Cub.Cu.right m = true
  case neg =>
    rw [if_neg hm] at HCK
    rw [errR_cube HA.out hm]
    clear hm
    go_enter Tryz.func32, Tryz.ntmps32
    go_wp2_with fail
    refine (HW.out _).mono ?_
    rintro en w1 ⟨rfl, rfl⟩
    go_wp2_with fail
    refine (HCK.out _).mono ?_
    rintro en w2 ⟨rfl, hb2⟩
    have HB2 := hid (show Below w.heap.size w w2 from ((Below.refl _ _).alloc (Nat.le_refl _) _).trans (hb2.mono (by simp)))
    clear hb2
    go_wp2
    go_ret
    exact ⟨rfl, HB2.out⟩
  rw [if_pos hm] at HCK
  have HM := hid hm
  clear hm hw
  by_cases hl : (m.length : Int) = W
  case neg =>
    have hne : ((m.length : Int) == W) = false := by rw [beq_eq_false_iff_ne]; exact hl
    rw [errR_width HA.out HM.out hl]
    clear hl
    go_enter Tryz.func32, Tryz.ntmps32
    go_wp2_with fail
    refine (HW.out _).mono ?_
    rintro en w1 ⟨rfl, rfl⟩
    go_wp2_with fail
    refine (HCK.out _).mono ?_
    rintro en w2 ⟨rfl, hb2⟩
    have OB := below_block hb2 (new_0 w (rob p (tx m) k (.slice ao ps.length cap))) (by simp)
    obtain ⟨d0, d1, d2, d3, _, _, _, _⟩ := rob_cells OB
    have HB2 := hid (show Below w.heap.size w w2 from ((Below.refl _ _).alloc (Nat.le_refl _) _).trans (hb2.mono (by simp)))
    clear OB hb2
    go_wp2
    go_ret
    exact ⟨rfl, HB2.out⟩
  have HMB := hid (fun (w' : World) (hb : Below w.heap.size w w') => mayBe_any (k := k) (HT.out.below hb) hz)
  have HE1 := hid (fun (h : ¬ okAct k ps) => errR_act (r := ⟨p, m, k, ps⟩) HA.out HM.out hl h)
  have HE0 := hid (fun (h : okAct k ps) => (errR_ok (r := ⟨p, m, k, ps⟩) (W := W)).2 ⟨by have := HA.out; omega, by have := HA.out; show 0 ≤ p ∧ p ≤ _; omega, HM.out, hl, h⟩)
  subst hl
  obtain ⟨er, her⟩ : ∃ er, er = errR (m.length : Int) ⟨p, m, k, ps⟩ := ⟨_, rfl⟩
  rw [← her] at HE0 HE1 ⊢
  clear her
  have hnn : ((m.length : Int) == (m.length : Int)) = true := by simp
  clear hz
  go_enter Tryz.func32, Tryz.ntmps32
  go_wp2_with fail
  refine (HW.out _).mono ?_
  rintro en w1 ⟨rfl, rfl⟩
  go_wp2_with fail
  refine (HCK.out _).mono ?_
  rintro en w2 ⟨rfl, hb2⟩
  have OB := below_block hb2 (new_0 w (rob p (tx m) k (.slice ao ps.length cap))) (by simp)
  obtain ⟨d0, d1, d2, d3, _, _, _, _⟩ := rob_cells OB
  have HB2 := hid (show Below w.heap.size w w2 from ((Below.refl _ _).alloc (Nat.le_refl _) _).trans (hb2.mono (by simp)))
  clear OB hb2
  go_wp2_with fail
  refine (HMB.out _ HB2.out).mono ?_
  rintro en w3 ⟨b, rfl, hb, hb3⟩
  have HB3 := hid (HB2.out.trans (hb3.mono HB2.out.size))
  have HI := hid hb
  clear hb hb3
  cases b with
  | true =>
    have hee := HE0.out (HI.out.1 rfl)
    subst hee
    go_wp2
    go_ret
    exact ⟨rfl, HB3.out⟩
  | false =>
    have hee := HE1.out (fun q => absurd (HI.out.2 q) (by decide))
    subst hee
    go_wp2
    go_ret
    exact ⟨rfl, HB3.out⟩


set_option maxRecDepth 20000 in
set_option maxHeartbeats 4000000 in
theorem RRight_any {w : World} {v : Value} {k : Int} {ps : List (List UInt8)} (ht : Txs w v ps) (hz : ∀ p ∈ ps, p.length ≤ maxLen) (hn : ps.length ≤ maxLen) :
    Calls Tryz.prog 65 #[.agg #[.int .i64 k, v]] w fun en w' => en = .returned (.bool (okActB k ps)) ∧ Below w.heap.size w w' := by
  have HT := hid ht
  obtain ⟨ao, cap, rfl, hr⟩ := ht
  by_cases hk : k = 1 ∨ k = 2
  · have he : okActB k ps = decide ((ps.length : Int) = 0) := by
      unfold okActB
      rw [decide_eq_true hk, decide_eq_false (show ¬ (k = 3 ∨ k = 4) by omega)]
      cases ps with
      | nil => rfl
      | cons a r => simp; omega
    rw [he]
    have BX := hid (show Below w.heap.size w (w.alloc (aob k (.slice ao ps.length cap))) from (Below.refl _ _).alloc (Nat.le_refl _) _)
    clear he hr hz HT
    rcases hk with rfl | rfl
    · go_enter Tryz.func65, Tryz.ntmps65
      go_wp2
      go_ret
      exact ⟨rfl, BX.out⟩
    · go_enter Tryz.func65, Tryz.ntmps65
      go_wp2
      go_ret
      exact ⟨rfl, BX.out⟩
  have hk1 : (k == 1) = false := by rw [beq_eq_false_iff_ne]; omega
  have hk2 : (k == 2) = false := by rw [beq_eq_false_iff_ne]; omega
  have HZ := hid hz
  have HR := hid hr
  obtain ⟨n, hnn⟩ : ∃ n, n = ps.length := ⟨_, rfl⟩
  have HN := hid hnn
  rw [← hnn] at hn ⊢
  have hnb : n ≤ 9223372036854775807 := by unfold maxLen at hn; omega
  clear hr hz hnn hn
  go_enter Tryz.func65, Tryz.ntmps65
  go_wp2_with fail
  go_loopw [3] (fun i wr => ∃ j : Nat, j ≤ n ∧ i = .int .i64 j ∧ Hid (Good ps j) ∧ Hid (wr.heap[w.heap.size]? = some (aob k (.slice ao n cap)) ∧ Below w.heap.size w wr)) (fun i _ => n - (intOf i).toNat)
  case atStart => exact ⟨0, Nat.zero_le _, rfl, Good.zero ps, new_0 _ _, (Below.refl _ _).alloc (Nat.le_refl _) _⟩
  case round =>
    obtain ⟨j, hj, rfl, HG, HB⟩ := hrel
    have b1 : wr.cell? ⟨w.heap.size, 1, none⟩ = some (.slice ao n cap) := by rw [cell_at HB.out.1]; rfl
    have b0 : wr.cell? ⟨w.heap.size, 0, none⟩ = some (.int .i64 k) := by rw [cell_at HB.out.1]; rfl
    by_cases hlt : j < n
    · obtain ⟨g, o, hao, hg, hc⟩ : ∃ g o, ao = some ⟨g, o, none⟩ ∧ g < w.heap.size ∧ ∀ i, i < ps.length → w.cell? ⟨g, o + i, none⟩ = some (.string (tx (ps.getD i []))) := by
        rcases HR.out with q | q
        · exfalso; have := HN.out; rw [q] at this; simp at this; omega
        · exact q
      subst hao
      have HC := hid (show ∀ W, Below wr.heap.size wr W → ∀ i, i < ps.length → W.cell? ⟨g, o + i, none⟩ = some (.string (tx (ps.getD i []))) from fun W hW i hi => by
        rw [hW.cell (by show g < wr.heap.size; have := HB.out.2.size; omega), HB.out.2.cell (by exact hg)]; exact hc i hi)
      have HJ := hid (show j < ps.length by rw [← HN.out]; exact hlt)
      obtain ⟨p, hpq⟩ : ∃ p, p = ps.getD j [] := ⟨_, rfl⟩
      have HPQ := hid hpq
      have HU := hid (fun w' => RName_any (tx p) w' (by rw [tx_size, hpq]; exact HZ.out _ (getD_mem HJ.out)))
      rw [tx_list] at HU
      have c0 := HC.out wr (Below.refl _ _) j HJ.out
      rw [← hpq] at c0
      have i0 : (0 : Int) ≤ (j : Int) := by omega
      have i1 : (j : Int) < (n : Int) := by omega
      clear hc hpq
      cases hnm : Wo.nameB p with
      | false =>
        have HNM := hid hnm
        rw [hnm] at HU
        clear hnm
        have HFIN := hid (show okActB k ps = false by
          cases q : okActB k ps with
          | false => rfl
          | true =>
            rcases okActB_iff.1 q with ⟨q1, _⟩ | ⟨_, q1⟩
            · exact absurd q1 hk
            · have := q1.2.2.1 _ (getD_mem HJ.out)
              rw [← HPQ.out, HNM.out] at this
              cases this)
        cases j with
        | zero =>
          rw [Nat.add_zero] at c0
          go_wp2_with fail
          go_quiet (first | exact Calls.quiet_of ((HU.out _).mono fun _ _ q => ⟨q.1, 0, q.2⟩))
          go_wp2
          go_ret
          exact ⟨by rw [HFIN.out]; rfl, below_drewN HB.out.2⟩
        | succ i =>
          have k0 : (0 : Int) ≤ (i : Int) + 1 := by omega
          have k1 : (i : Int) + 1 < (n : Int) := by omega
          clear i0 i1
          go_wp2_with fail
          go_quiet (first | exact Calls.quiet_of ((HU.out _).mono fun _ _ q => ⟨q.1, 0, q.2⟩))
          go_wp2
          go_ret
          exact ⟨by rw [HFIN.out]; rfl, below_drewN HB.out.2⟩
      | true =>
        have HNM := hid hnm
        rw [hnm] at HU
        clear hnm
        cases j with
        | zero =>
          rw [Nat.add_zero] at c0
          have HG1 := hid (show Good ps 1 from ⟨fun i hi => by rw [show i = 0 by omega, ← HPQ.out]; exact HNM.out, fun i hi => by omega⟩)
          go_wp2_with fail
          go_quiet (first | exact Calls.quiet_of ((HU.out _).mono fun _ _ q => ⟨q.1, 0, q.2⟩))
          go_wp2
          go_roundw
          case rel => exact ⟨1, by omega, by first | rfl | go_num, HG1, HB.out.1, below_drewN HB.out.2⟩
          case measure => simp [intOf]; omega
        | succ i =>
          have c1 := HC.out wr (Below.refl _ _) i (by have := HJ.out; omega)
          obtain ⟨q, hq⟩ : ∃ q, q = ps.getD i [] := ⟨_, rfl⟩
          have HQ := hid hq
          rw [← hq] at c1
          have hpos : (0 : Int) < (i : Int) + 1 := by omega
          have hneg : (0 : Int) ≤ (i : Int) := by omega
          have hilt : (i : Int) < (n : Int) := by omega
          have k0 : (0 : Int) ≤ (i : Int) + 1 := by omega
          have k1 : (i : Int) + 1 < (n : Int) := by omega
          clear hq i0 i1
          cases hless : Op.bytesLess q p with
          | true =>
            have HL := hid (show q < p by rw [bytesLess_eq] at hless; simpa using hless)
            have HG1 := hid (show Good ps (i + 1 + 1) from by
              refine ⟨fun a ha => ?_, fun a ha => ?_⟩
              · by_cases e : a = i + 1
                · rw [e, ← HPQ.out]; exact HNM.out
                · exact HG.out.names a (by omega)
              · by_cases e : a = i
                · rw [e, ← HPQ.out, ← HQ.out]; exact HL.out
                · exact HG.out.rise a (by omega))
            go_wp2_with fail
            go_quiet (first | exact Calls.quiet_of ((HU.out _).mono fun _ _ q => ⟨q.1, 0, q.2⟩))
            go_wp2
            go_roundw
            case rel => exact ⟨i + 1 + 1, by omega, by go_num, HG1, HB.out.1, below_drewN HB.out.2⟩
            case measure => simp [intOf]; omega
          | false =>
            have HL := hid (show ¬ q < p by rw [bytesLess_eq] at hless; simpa using hless)
            have HFIN := hid (show okActB k ps = false by
              cases qq : okActB k ps with
              | false => rfl
              | true =>
                rcases okActB_iff.1 qq with ⟨q1, _⟩ | ⟨_, q1⟩
                · exact absurd q1 hk
                · refine absurd ?_ HL.out
                  rw [HQ.out, HPQ.out]
                  exact rise_getD q1.2.2.2 HJ.out)
            go_wp2_with fail
            go_quiet (first | exact Calls.quiet_of ((HU.out _).mono fun _ _ q => ⟨q.1, 0, q.2⟩))
            go_wp2
            go_ret
            exact ⟨by rw [HFIN.out]; rfl, below_drewN HB.out.2⟩
    · have hI : ¬ ((j : Int) < (n : Int)) := by omega
      have hjn : j = n := by omega
      have HEQ := hid (show okActB k ps = ((k == 3 || k == 4) && decide ((1 : Int) ≤ (n : Int)) && decide ((n : Int) ≤ 64)) by
        have hg : Good ps ps.length := by rw [← HN.out, ← hjn]; exact HG.out
        have h1 : ps.all Wo.nameB = true := List.all_eq_true.2 fun x hx => by
          obtain ⟨i, hi, rfl⟩ := List.mem_iff_getElem.1 hx
          have := hg.names i hi
          simpa [List.getD_eq_getElem?_getD, List.getElem?_eq_getElem hi] using this
        have h2 : ps.Pairwise (· < ·) := rise_of_adj hg.rise
        have d1 : decide (1 ≤ ps.length) = decide ((1 : Int) ≤ (n : Int)) := decide_eq_decide.2 (by have := HN.out; omega)
        have d2 : decide (ps.length ≤ 64) = decide ((n : Int) ≤ 64) := decide_eq_decide.2 (by have := HN.out; omega)
        have dk : decide (k = 3 ∨ k = 4) = (k == 3 || k == 4) := by rw [Bool.decide_or]; rfl
        unfold okActB
        rw [decide_eq_false hk, h1, decide_eq_true h2, d1, d2, dk]
        cases (k == 3 || k == 4) <;> cases decide ((1 : Int) ≤ (n : Int)) <;> cases decide ((n : Int) ≤ 64) <;> rfl)
      by_cases q3 : k = 3
      · subst q3
        by_cases q5 : 1 ≤ n
        · have q5I : (1 : Int) ≤ (n : Int) := by omega
          by_cases q6 : n ≤ 64
          · have q6I : (n : Int) ≤ 64 := by omega
            go_wp2
            go_ret
            exact ⟨by rw [HEQ.out, decide_eq_true (show (1 : Int) ≤ (n : Int) by omega), decide_eq_true (show (n : Int) ≤ 64 by omega)]; rfl, HB.out.2⟩
          · have q6I : ¬ (n : Int) ≤ 64 := by omega
            go_wp2
            go_ret
            exact ⟨by rw [HEQ.out, decide_eq_true (show (1 : Int) ≤ (n : Int) by omega), decide_eq_false (show ¬ (n : Int) ≤ 64 by omega)]; rfl, HB.out.2⟩
        · have q5I : ¬ (1 : Int) ≤ (n : Int) := by omega
          go_wp2
          go_ret
          exact ⟨by rw [HEQ.out, decide_eq_false (show ¬ (1 : Int) ≤ (n : Int) by omega)]; rfl, HB.out.2⟩
      · have a3 : (k == 3) = false := by rw [beq_eq_false_iff_ne]; exact q3
        by_cases q4 : k = 4
        · subst q4
          by_cases q5 : 1 ≤ n
          · have q5I : (1 : Int) ≤ (n : Int) := by omega
            by_cases q6 : n ≤ 64
            · have q6I : (n : Int) ≤ 64 := by omega
              go_wp2
              go_ret
              exact ⟨by rw [HEQ.out, decide_eq_true (show (1 : Int) ≤ (n : Int) by omega), decide_eq_true (show (n : Int) ≤ 64 by omega)]; rfl, HB.out.2⟩
            · have q6I : ¬ (n : Int) ≤ 64 := by omega
              go_wp2
              go_ret
              exact ⟨by rw [HEQ.out, decide_eq_true (show (1 : Int) ≤ (n : Int) by omega), decide_eq_false (show ¬ (n : Int) ≤ 64 by omega)]; rfl, HB.out.2⟩
          · have q5I : ¬ (1 : Int) ≤ (n : Int) := by omega
            go_wp2
            go_ret
            exact ⟨by rw [HEQ.out, decide_eq_false (show ¬ (1 : Int) ≤ (n : Int) by omega)]; rfl, HB.out.2⟩
        · have a4 : (k == 4) = false := by rw [beq_eq_false_iff_ne]; exact q4
          go_wp2
          go_ret
          exact ⟨by rw [HEQ.out, a3, a4]; rfl, HB.out.2⟩

set_option maxRecDepth 4000 in
set_option maxHeartbeats 2000000 in
theorem RCheckN_any {w : World} {W p k : Int} {m : List UInt8} {v : Value} {ps : List (List UInt8)} (ht : Txs w v ps) (hz : ∀ p ∈ ps, p.length ≤ maxLen) (hn : ps.length ≤ maxLen) (hm : m.length ≤ maxLen) :
    Calls Tryz.prog 35 #[.agg #[.int .i64 p, .string (tx m), .int .i64 k, v], .int .i64 W] w fun en w' => en = .returned (.int .i64 (errR W ⟨p, m, k, ps⟩)) ∧ Below w.heap.size w w' := by
  have HT := hid ht
  obtain ⟨ao, cap, rfl, _⟩ := ht
  have BX := hid (show Below w.heap.size w (w.alloc (rob p (tx m) k (.slice ao ps.length cap))) from (Below.refl _ _).alloc (Nat.le_refl _) _)
  by_cases h1 : W < 1
  · rw [errR_arg (Or.inl (by omega))]
    go_enter Tryz.func35, Tryz.ntmps35
    go_wp2
    go_ret
    exact ⟨rfl, BX.out⟩
  by_cases h2 : 128 < W
  · rw [errR_arg (Or.inl (by omega))]
    go_enter Tryz.func35, Tryz.ntmps35
    go_wp2
    go_ret
    exact ⟨rfl, BX.out⟩
  by_cases hp0 : p < 0
  · rw [errR_arg (Or.inr (Or.inl hp0))]
    go_enter Tryz.func35, Tryz.ntmps35
    go_wp2
    go_ret
    exact ⟨rfl, BX.out⟩
  by_cases hp1 : 2147483647 < p
  · rw [errR_arg (Or.inr (Or.inr hp1))]
    go_enter Tryz.func35, Tryz.ntmps35
    go_wp2
    go_ret
    exact ⟨rfl, BX.out⟩
  have HA := hid (show ¬ (¬ (1 ≤ W ∧ W ≤ 128) ∨ p < 0 ∨ 2147483647 < p) by omega)
  have HCK := hid (fun w' => URight_any (tx m) w' (by rw [tx_size]; exact hm))
  rw [tx_list] at HCK
  by_cases hc : Cub.Cu.right m = true
  case neg =>
    rw [errR_cube HA.out hc]
    rw [show Cub.Cu.right m = false by simpa using hc] at HCK
    clear hc
    go_enter Tryz.func35, Tryz.ntmps35
    go_wp2_with fail
    refine (HCK.out _).mono ?_
    rintro en w2 ⟨rfl, rfl⟩
    go_wp2
    go_ret
    exact ⟨rfl, BX.out⟩
  rw [hc] at HCK
  have HM := hid hc
  clear hc
  by_cases hl : (m.length : Int) = W
  case neg =>
    have hne : ((m.length : Int) == W) = false := by rw [beq_eq_false_iff_ne]; exact hl
    rw [errR_width HA.out HM.out hl]
    clear hl
    go_enter Tryz.func35, Tryz.ntmps35
    go_wp2_with fail
    refine (HCK.out _).mono ?_
    rintro en w2 ⟨rfl, rfl⟩
    go_wp2
    go_ret
    exact ⟨rfl, BX.out⟩
  have HMB := hid (fun (w' : World) (hb : Below w.heap.size w w') => RRight_any (k := k) (HT.out.below hb) hz hn)
  have HE1 := hid (fun (h : okActB k ps = false) => errR_act (r := ⟨p, m, k, ps⟩) HA.out HM.out hl (fun q => by rw [okActB_iff.2 q] at h; cases h))
  have HE0 := hid (fun (h : okActB k ps = true) => (errR_ok (r := ⟨p, m, k, ps⟩) (W := W)).2 ⟨by have := HA.out; omega, by have := HA.out; show 0 ≤ p ∧ p ≤ _; omega, HM.out, hl, okActB_iff.1 h⟩)
  subst hl
  obtain ⟨er, her⟩ : ∃ er, er = errR (m.length : Int) ⟨p, m, k, ps⟩ := ⟨_, rfl⟩
  rw [← her] at HE0 HE1 ⊢
  obtain ⟨bv, hbv⟩ : ∃ bv, bv = okActB k ps := ⟨_, rfl⟩
  rw [← hbv] at HE0 HE1 HMB
  clear her hz hm hbv
  have hnn : ((m.length : Int) == (m.length : Int)) = true := by simp
  go_enter Tryz.func35, Tryz.ntmps35
  go_wp2_with fail
  refine (HCK.out _).mono ?_
  rintro en w2 ⟨rfl, rfl⟩
  go_wp2_with fail
  refine (HMB.out _ BX.out).mono ?_
  rintro en w3 ⟨rfl, hb3⟩
  have HB3 := hid (BX.out.trans (hb3.mono BX.out.size))
  clear hb3
  cases bv with
  | true =>
    have hee := HE0.out rfl
    subst hee
    go_wp2
    go_ret
    exact ⟨rfl, HB3.out⟩
  | false =>
    have hee := HE1.out rfl
    subst hee
    go_wp2
    go_ret
    exact ⟨rfl, HB3.out⟩
end Go.Proofs.YtemmhingmeinjaaGreatDoor
namespace Go.Proofs.YtemmhingmeinjaaGreatDoor
open Go.RowKit

set_option maxHeartbeats 1000000 in
theorem RSay_none (ao : Option Addr) (cap : Nat) (w : World) : Calls Tryz.prog 66 #[.slice ao 0 cap] w fun e w' => e = .returned (.tuple #[.string (tx []), .int .i64 0]) ∧ Below w.heap.size w w' := by
  go_enter Tryz.func66, Tryz.ntmps66
  go_wp2
  refine wp_loop_rounds 1 ?_
  rw [rounds_succ]
  go_wp2
  refine wp_loop_rounds 1 ?_
  rw [rounds_succ]
  go_wp2
  go_ret2
  exact ⟨rfl, Below.refl _ _⟩

theorem tx_app (a b : List UInt8) : tx a ++ tx b = tx (a ++ b) := by
  apply ByteArray.ext
  simp

theorem two_kept {w w1 : World} {g a b : Nat} {u v : Value} (hg : g < w.heap.size) (h1 : w.cell? ⟨g, a, none⟩ = some u) (h2 : w.cell? ⟨g, b, none⟩ = some v) (hb : Below w.heap.size w w1) : w1.cell? ⟨g, a, none⟩ = some u ∧ w1.cell? ⟨g, b, none⟩ = some v :=
  ⟨(hb.cell (p := ⟨g, a, none⟩) hg).trans h1, (hb.cell (p := ⟨g, b, none⟩) hg).trans h2⟩

set_option maxRecDepth 4000 in
set_option maxHeartbeats 4000000 in
theorem RSay_some (ls : List (List UInt8)) (g o cap : Nat) (w : World) (hg : g < w.heap.size) (hc : ∀ i, i < ls.length → w.cell? ⟨g, o + i, none⟩ = some (.string (tx (ls.getD i [])))) (hn : ls.length ≤ 200) (h4 : ∀ l ∈ ls, l.length ≤ 4000) :
    Calls Tryz.prog 66 #[.slice (some ⟨g, o, none⟩) ls.length cap] w fun e w' => e = .returned (.tuple #[.string (tx (sayS ls)), .int .i64 (sayE ls)]) ∧ Below w.heap.size w w' := by
  have HC := hid hc
  have H4 := hid h4
  clear hc h4
  obtain ⟨n, hnn⟩ : ∃ n, n = ls.length := ⟨_, rfl⟩
  have HN := hid hnn
  rw [← hnn] at hn ⊢
  clear hnn
  go_enter Tryz.func66, Tryz.ntmps66
  go_wp2
  go_loopw [4] (fun i wr => ∃ k : Nat, k ≤ n ∧ i = .int .i64 k ∧ Hid (∀ j, j < k → Wo.isW (ls.getD j []) = true) ∧ Hid (Below w.heap.size w wr)) (fun i _ => n - (intOf i).toNat)
  case atStart => exact ⟨0, Nat.zero_le _, rfl, fun j hj => absurd hj (Nat.not_lt_zero j), Below.refl _ _⟩
  case round =>
    obtain ⟨k, hk, rfl, HW, HL⟩ := hrel
    by_cases hlt : k < n
    · have ck : wr.cell? ⟨g, o + k, none⟩ = some (.string (tx (ls.getD k []))) := by rw [HL.out.cell (by exact hg)]; exact HC.out k (by rw [← HN.out]; exact hlt)
      obtain ⟨x, hx⟩ : ∃ x, x = ls.getD k [] := ⟨_, rfl⟩
      have hxl := getD_len ls H4.out k
      rw [← hx] at ck hxl
      have HX := hid hx
      clear hx
      have hkI : (0 : Int) ≤ (k : Int) := by omega
      have hkI2 : (k : Int) < (n : Int) := by omega
      have q := fun w => Rword_any x w (by omega)
      rcases bool_two (Wo.isW x) with h1 | h1
      · have HE := hid (show allW ls = false by
          cases hq : allW ls with
          | false => rfl
          | true => have := allW_getD.1 hq k (by rw [← HN.out]; exact hlt); rw [← HX.out, h1] at this; exact absurd this (by simp))
        rw [h1] at q
        clear h1
        go_wp2_with (go_at_call 100; refine (q _).mono ?_; rintro e w1 ⟨rfl, hb1⟩)
        go_ret2
        refine ⟨?_, HL.out.trans (hb1.mono HL.out.size)⟩
        unfold sayS sayE
        rw [HE.out]; rfl
      · have HW2 := hid (show ∀ j, j < k + 1 → Wo.isW (ls.getD j []) = true from fun j hj => by
          by_cases e : j = k
          · rw [e, ← HX.out]; exact h1
          · exact HW.out j (by omega))
        rw [h1] at q
        clear h1
        go_wp2_with (go_at_call 100; refine (q _).mono ?_; rintro e w1 ⟨rfl, hb1⟩)
        go_roundw
        case rel => exact ⟨k + 1, by omega, by go_num, HW2, HL.out.trans (hb1.mono HL.out.size)⟩
        case measure => simp [intOf]; omega
    · have HE := hid (show allW ls = true from allW_getD.2 (fun i hi => HW.out i (by rw [← HN.out] at hi; omega)))
      have HWA := hid (show ∀ j, j < n → Wo.isW (ls.getD j []) = true from fun j hj => HW.out j (by omega))
      clear HW
      rename World => wo
      go_wp2
      go_loopw [5, 6] (fun s i wr => ∃ k : Nat, k ≤ n ∧ i = .int .i64 k ∧ s = .string (tx (Wo.sayTo ls k)) ∧ Hid (Below w.heap.size w wr)) (fun _ i _ => n - (intOf i).toNat)
      case atStart => exact ⟨0, Nat.zero_le _, rfl, rfl, HL⟩
      case round =>
        obtain ⟨k, hk, rfl, rfl, HL2⟩ := hrel
        have hsl := sayTo_len ls H4.out k
        by_cases hlt : k < n
        · have ck : wr.cell? ⟨g, o + k, none⟩ = some (.string (tx (ls.getD k []))) := by rw [HL2.out.cell (by exact hg)]; exact HC.out k (by rw [← HN.out]; exact hlt)
          obtain ⟨x, hx⟩ : ∃ x, x = ls.getD k [] := ⟨_, rfl⟩
          have hxl := getD_len ls H4.out k
          have hxw := HWA.out k hlt
          rw [← hx] at ck hxl hxw
          have HX := hid hx
          have HXW := hid hxw
          clear hx hxw
          obtain ⟨t, ht⟩ : ∃ t, t = Wo.sayTo ls k := ⟨_, rfl⟩
          rw [← ht] at hsl ⊢
          have HT := hid ht
          clear ht
          have hkI : (0 : Int) ≤ (k : Int) := by omega
          have hkI2 : (k : Int) < (n : Int) := by omega
          have hov : ¬ 9223372036854775807 < t.length + x.length := by omega
          have hov1 : ¬ 9223372036854775807 < t.length + 1 := by omega
          have hov2 : ¬ 9223372036854775807 < t.length + 1 + x.length := by omega
          have hgr : g < wr.heap.size := Nat.lt_of_lt_of_le hg HL2.out.size
          by_cases hk0 : 0 < k
          · obtain ⟨y, hy⟩ : ∃ y, y = ls.getD (k - 1) [] := ⟨_, rfl⟩
            have cy : wr.cell? ⟨g, o + (k - 1), none⟩ = some (.string (tx y)) := by
              rw [HL2.out.cell (by exact hg), hy]
              exact HC.out (k - 1) (by rw [← HN.out]; omega)
            have hyl := getD_len ls H4.out (k - 1)
            have hyw := HWA.out (k - 1) (by omega)
            rw [← hy] at hyl hyw
            have hp1 : (0 : Int) ≤ (k : Int) - 1 := by omega
            have hp2 : (k : Int) - 1 < (n : Int) := by omega
            have hk0I : (0 : Int) < (k : Int) := by omega
            have hwr : IntKind.i64.wrap ((k : Int) - 1) = (k : Int) - 1 := by rw [IntKind.wrap_i64]; omega
            have hz1 : (1 : Int) ≤ (k : Int) := by omega
            have hz2 : 1 ≤ k := by omega
            have hz3 : (k : Int) < (n : Int) + 1 := by omega
            have hz4 : k < n + 1 := by omega
            have HY := hid hy
            have HYW := hid hyw
            clear hy hyw
            have q := fun w => Rglued_any y x w HYW.out HXW.out (by omega)
            rcases bool_two (Wo.glue y x) with h2 | h2
            · have HE0 := hid (show Wo.sayTo ls (k + 1) = t ++ x by
                show Wo.sayTo ls k ++ (if 0 < k ∧ Wo.glue (ls.getD (k - 1) []) (ls.getD k []) = true then [32] else []) ++ ls.getD k [] = _
                rw [← HX.out, ← HY.out, ← HT.out, h2, if_neg (by simp)]; simp)
              rw [h2] at q
              clear h2
              go_wp2_with fail
              go_region_held3 (fun w' => w'.cell? ⟨g, o + (k - 1), none⟩ = some (.string (tx y)) ∧ w'.cell? ⟨g, o + k, none⟩ = some (.string (tx x))) (first | (go_keep; done) | exact hcx) (first | (go_at_call 101; refine (q _).mono ?_; rintro e w1 ⟨rfl, hb1⟩; have hcx := two_kept hgr cy ck (undrew hb1)))
              have c1x := hcx.2
              go_wp2
              go_roundw
              case rel => exact ⟨k + 1, by omega, by go_num, by rw [HE0.out, ← tx_app], HL2.out.trans ((undrew hb1).mono HL2.out.size)⟩
              case measure => simp [intOf]; omega
            · have HE0 := hid (show Wo.sayTo ls (k + 1) = (t ++ [32]) ++ x by
                show Wo.sayTo ls k ++ (if 0 < k ∧ Wo.glue (ls.getD (k - 1) []) (ls.getD k []) = true then [32] else []) ++ ls.getD k [] = _
                rw [← HX.out, ← HY.out, ← HT.out, h2, if_pos ⟨hk0, rfl⟩])
              rw [h2] at q
              clear h2
              go_wp2_with fail
              go_region_held3 (fun w' => w'.cell? ⟨g, o + (k - 1), none⟩ = some (.string (tx y)) ∧ w'.cell? ⟨g, o + k, none⟩ = some (.string (tx x))) (first | (go_keep; done) | exact hcx) (first | (go_at_call 101; refine (q _).mono ?_; rintro e w1 ⟨rfl, hb1⟩; have hcx := two_kept hgr cy ck (undrew hb1)))
              have c1x := hcx.2
              go_wp2
              go_roundw
              case rel => exact ⟨k + 1, by omega, by go_num, by rw [HE0.out, ← tx_app, ← tx_app], HL2.out.trans ((undrew hb1).mono HL2.out.size)⟩
              case measure => simp [intOf]; omega
          · have HE0 := hid (show Wo.sayTo ls (k + 1) = t ++ x by
              show Wo.sayTo ls k ++ (if 0 < k ∧ Wo.glue (ls.getD (k - 1) []) (ls.getD k []) = true then [32] else []) ++ ls.getD k [] = _
              rw [← HX.out, ← HT.out, if_neg (by omega)]; simp)
            have hk0I : decide ((0 : Int) < (k : Int)) = false := decide_eq_false (by omega)
            go_wp2
            go_quiet (fail)
            go_wp2
            go_roundw
            case rel => exact ⟨k + 1, by omega, by go_num, by rw [HE0.out, ← tx_app], below_drewN HL2.out⟩
            case measure => simp [intOf]; omega
        · have HS := hid (show Wo.sayTo ls k = Wo.sayL ls by rw [show k = n by omega, HN.out]; exact Wo.sayTo_all ls)
          go_wp2
          go_ret2
          refine ⟨?_, HL2.out⟩
          unfold sayS sayE
          rw [HE.out, if_pos rfl, if_pos rfl, ← HS.out]
          rfl
end Go.Proofs.YtemmhingmeinjaaGreatDoor
namespace Go.Proofs.YtemmhingmeinjaaGreatDoor
open Go.RowKit

theorem RSay_anyL (v : Value) (ls : List (List UInt8)) (w : World) (h : Txs w v ls) (hn : ls.length ≤ 200) (h4 : ∀ l ∈ ls, l.length ≤ 4000) :
    Calls Tryz.prog 66 #[v] w fun e w' => e = .returned (.tuple #[.string (tx (sayS ls)), .int .i64 (sayE ls)]) ∧ Below w.heap.size w w' := by
  obtain ⟨ao, cap, rfl, hr⟩ := h
  rcases hr with rfl | ⟨g, o, rfl, hg, hc⟩
  · exact RSay_none ao cap w
  · exact RSay_some ls g o cap w hg hc hn h4

end Go.Proofs.YtemmhingmeinjaaGreatDoor
