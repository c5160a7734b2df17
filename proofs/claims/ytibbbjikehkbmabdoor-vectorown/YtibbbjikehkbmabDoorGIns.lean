/-
  slices.Insert of one stamp into a row of one's own, any way.
-/
import Derived.Test.YtibbbjikehkbmabDoorGInsC
import Derived.Test.YtibbbjikehkbmabDoorGBin
import Derived.Test.YtibbbjikehkbmabDoorGRMrg
namespace Go.Proofs.YtibbbjikehkbmabDoor.Ve
open Go.RowKit

theorem Insert_any {w : World} {B k vb : Nat} {v : Value} {l : List St} {q : St} (ho : OwnS w B v l) (hB : B ≤ w.heap.size) (hk : k ≤ l.length) (h60 : l.length ≤ 4096)
    (hv : w.heap[vb]? = some (.cells #[.int .i64 q.1, .int .u64 (q.2 : Int)] 33 (0, 0))) (hne : v.ownBlock ≠ some vb) :
    Calls Tryd.prog 20 #[v, .int .i64 (k : Int), .slice (some ⟨vb, 0, none⟩) 1 1] w fun e w' => ∃ v', e = .returned v' ∧ OwnS w' B v' (l.take k ++ q :: l.drop k) ∧ w.grownBy w' v.ownBlock := by
  obtain ⟨ao, c, rfl⟩ := ho.form
  have hlen : (l.take k ++ q :: l.drop k).length = l.length + 1 := by simp; omega
  by_cases hkn : k = l.length
  · subst hkn
    have h := Insert_end (q := q) ho hB h60 hv
    refine h.mono ?_
    rintro e w' ⟨bo, bc, rfl, h1, h2⟩
    refine ⟨_, rfl, ?_, h2⟩
    unfold OwnS
    rw [hlen]
    rw [List.take_length, List.drop_length]
    exact h1
  · have hk' : k < l.length := by omega
    rcases ho.2 with ⟨e, h0⟩ | ⟨g, cap, cur, e, hBg, hh, hn, hm, _, _⟩
    · omega
    · injection e with e1 e2 e3
      subst e1 e3
      have hg : vb ≠ g := fun q => hne (by rw [q]; rfl)
      by_cases hroom : l.length + 1 ≤ c
      · refine (Insert_shift ho rfl hk' hroom h60 hv hg).mono ?_
        rintro e w' ⟨rfl, h1, h2⟩
        refine ⟨_, rfl, ?_, h2⟩
        unfold OwnS
        rw [hlen]
        exact h1
      · refine (Insert_grow ho rfl hk' (by omega) h60 hB hv).mono ?_
        rintro e w' ⟨bo, bc, rfl, h1, h2⟩
        refine ⟨_, rfl, ?_, h2⟩
        unfold OwnS
        rw [hlen]
        exact h1
theorem low_parts (d : Int) : ∀ {l : List St}, Right l → l.take (lowI l d) = l.filter (fun t => decide (t.1 < d)) ∧ l.drop (lowI l d) = l.filter (fun t => !decide (t.1 < d))
  | [], _ => by simp [lowI]
  | x :: l, hr => by
    obtain ⟨_, hx, hr'⟩ := right_cons.1 hr
    obtain ⟨i1, i2⟩ := low_parts d hr'
    by_cases h : x.1 < d
    · have e : lowI (x :: l) d = lowI l d + 1 := by unfold lowI; simp [h]
      rw [e, List.take_succ_cons, List.drop_succ_cons, i1, i2]
      simp [h]
    · have hall : ∀ t ∈ x :: l, ¬ t.1 < d := fun t ht => by
        rcases List.mem_cons.1 ht with rfl | ht
        · exact h
        · have := hx t ht; omega
      have e1 : (x :: l).filter (fun t => decide (t.1 < d)) = [] := by
        rw [List.filter_eq_nil_iff]
        intro t ht
        simpa using hall t ht
      have e2 : (x :: l).filter (fun t => !decide (t.1 < d)) = x :: l := by
        rw [List.filter_eq_self]
        intro t ht
        simpa using hall t ht
      have e : lowI (x :: l) d = 0 := by unfold lowI; rw [e1]; rfl
      rw [e, e1, e2]
      simp
theorem low_le {l : List St} (d : Int) : lowI l d ≤ l.length := List.length_filter_le _ _
/-- A stamp put in where there is none of its device. -/
theorem putV_ins {l : List St} {s : St} (hr : Right l) (h : (fndP l s.1).2 = false) : l.take (lowI l s.1) ++ s :: l.drop (lowI l s.1) = putV l s := by
  have hno := fndP_none h
  obtain ⟨e1, e2⟩ := low_parts s.1 hr
  rw [e1, e2]
  unfold putV
  congr 2
  apply List.filter_congr
  intro t ht
  have hne : t.1 ≠ s.1 := fun e => get_none hno t.2 (by rw [← e]; exact ht)
  rw [Bool.eq_iff_iff]
  simp
  omega
/-- Where a device's stamp stands. -/
theorem low_at {l : List St} {d : Int} (hr : Right l) (h : (fndP l d).2 = true) : l[lowI l d]? = some (d, (fndP l d).1) := by
  have hm := get_mem (fndP_some h)
  obtain ⟨_, e2⟩ := low_parts d hr
  have hin : (d, (fndP l d).1) ∈ l.drop (lowI l d) := by
    rw [e2, List.mem_filter]
    exact ⟨hm, by simp⟩
  cases hd : l.drop (lowI l d) with
  | nil => rw [hd] at hin; cases hin
  | cons y r =>
    have hy : l[lowI l d]? = some y := by
      have := congrArg (fun z : List St => z[0]?) hd
      simpa [List.getElem?_drop] using this
    rw [hy]
    rw [hd] at hin
    rcases List.mem_cons.1 hin with e | hin
    · rw [e]
    · exfalso
      obtain ⟨i, hi⟩ := List.getElem?_of_mem hin
      have hi2 : l[lowI l d + (i + 1)]? = some (d, (fndP l d).1) := by
        rw [← List.getElem?_drop, hd]
        simpa using hi
      have hlt := right_lt hr hy hi2 (by omega)
      have hyd : y ∈ l.drop (lowI l d) := by rw [hd]; simp
      rw [e2, List.mem_filter] at hyd
      have := hyd.2
      simp at this
      simp only at hlt
      omega
theorem putV_set {l : List St} {s : St} (hr : Right l) (h : (fndP l s.1).2 = true) : l.set (lowI l s.1) s = putV l s := by
  have hat := low_at hr h
  have hlt := (List.getElem?_eq_some_iff.1 hat).1
  have hs := hr.1 _ (List.mem_of_getElem? hat)
  have hset : l.set (lowI l s.1) s = l.take (lowI l s.1) ++ s :: l.drop (lowI l s.1 + 1) := by
    rw [List.set_eq_take_append_cons_drop, if_pos hlt]
  rw [hset]
  obtain ⟨e1, e2⟩ := low_parts s.1 hr
  rw [e1]
  unfold putV
  congr 2
  have hd : l.drop (lowI l s.1) = (s.1, (fndP l s.1).1) :: l.drop (lowI l s.1 + 1) := by
    rw [List.drop_eq_getElem_cons hlt]
    congr 1
    exact (List.getElem?_eq_some_iff.1 hat).2
  have hr2 := right_of_drop hr (lowI l s.1)
  rw [hd] at hr2
  obtain ⟨_, hx, _⟩ := right_cons.1 hr2
  have e3 : l.filter (fun t => decide (s.1 < t.1)) = (l.drop (lowI l s.1)).filter (fun t => decide (s.1 < t.1)) := by
    conv => lhs; rw [← List.take_append_drop (lowI l s.1) l]
    rw [List.filter_append, e1]
    have : (l.filter (fun t => decide (t.1 < s.1))).filter (fun t => decide (s.1 < t.1)) = [] := by
      rw [List.filter_eq_nil_iff]
      intro t ht
      have := (List.mem_filter.1 ht).2
      simp at this ⊢
      omega
    rw [this, List.nil_append]
  rw [e3, hd]
  have e4 : (l.drop (lowI l s.1 + 1)).filter (fun t => decide (s.1 < t.1)) = l.drop (lowI l s.1 + 1) := by
    rw [List.filter_eq_self]
    intro t ht
    simpa using hx t ht
  simp [e4]
end Go.Proofs.YtibbbjikehkbmabDoor.Ve
