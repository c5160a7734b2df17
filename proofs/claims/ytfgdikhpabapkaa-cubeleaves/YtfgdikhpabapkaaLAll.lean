/-
  The law CubeAllOrLeft: of any text, any row of texts and any header it answers true.
-/
import Derived.Test.YtfgdikhpabapkaaLeft
namespace Go.Proofs.Ytfgdikhpabapkaa
open Go.RowKit

/-- What Left answers. -/
def errA (c : ByteArray) (ls : List (List UInt8)) : Int := if errL (c.data.toList :: ls) = 0 then (if manyB c.data.toList ls = true then 3 else 0) else errL (c.data.toList :: ls)
def leftR (c : ByteArray) (ls : List (List UInt8)) : List (List UInt8) := if errA c ls = 0 then leftTo c.data.toList ls ls.length else []

theorem errA_zero {c : ByteArray} {ls : List (List UInt8)} (h : errA c ls = 0) : errL (c.data.toList :: ls) = 0 ∧ manyB c.data.toList ls = false := by
  unfold errA at h
  split at h
  · rename_i h1
    split at h
    · cases h
    · rename_i h2
      exact ⟨h1, by simpa using h2⟩
  · rename_i h1
    exact absurd h h1

theorem Left_any (c : ByteArray) (v : Value) (ls : List (List UInt8)) (w : World) (hs : Src w v ls) (hn : ls.length ≤ 8) :
    Calls Try.prog 21 #[.string c, v] w fun e w' => ∃ v', e = .returned (.tuple #[v', .int .i64 (errA c ls)]) ∧ Row w' v' (leftR c ls) ∧ Below w.heap.size w w' := by
  by_cases he : errL (c.data.toList :: ls) = 0
  · rcases bool_two (manyB c.data.toList ls) with hm | hm
    · have e1 : errA c ls = 0 := by simp [errA, he, hm]
      have e2 : leftR c ls = leftTo c.data.toList ls ls.length := by simp [leftR, e1]
      rw [e1, e2]
      refine (Left_ok c v ls w hs hn he 0 false hm rfl).mono ?_
      rintro e w' ⟨v', rfl, _, h2, hb⟩
      exact ⟨v', rfl, (h2 rfl).row, hb⟩
    · have e1 : errA c ls = 3 := by simp [errA, he, hm]
      have e2 : leftR c ls = [] := by simp [leftR, e1]
      rw [e1, e2]
      refine (Left_ok c v ls w hs hn he 3 true hm rfl).mono ?_
      rintro e w' ⟨v', rfl, h1, _, hb⟩
      have := h1 rfl
      subst this
      exact ⟨_, rfl, Row.nil _, hb⟩
  · have e1 : errA c ls = errL (c.data.toList :: ls) := by simp [errA, he]
    have e2 : leftR c ls = [] := by simp [leftR, e1, he]
    rw [e1, e2]
    refine (Left_bad c v ls w hs hn he).mono ?_
    rintro e w' ⟨rfl, hb⟩
    exact ⟨_, rfl, Row.nil _, hb⟩

theorem in_cutL {l b : List UInt8} {h : ByteArray} (hl : Cu.right l = true) (hb : Cu.right b = true) (hlb : l.length = b.length) (hx : hasX h = false) (hh : Cu.right h.data.toList = true) (hs : l.length = h.size) :
    inB (Cu.cutL l b) h = (hasB ⟨l.toArray⟩ h && !hasB ⟨b.toArray⟩ h) := by
  have e1 : errH ⟨l.toArray⟩ h = 0 := by
    unfold errH; rw [hx, if_neg (by simp)]
    exact err2_of hh (by simpa using hl) (by show h.size = l.toArray.size; simp [hs])
  have e2 : errH ⟨b.toArray⟩ h = 0 := by
    unfold errH; rw [hx, if_neg (by simp)]
    exact err2_of hh (by simpa using hb) (by show h.size = b.toArray.size; simp [← hlb, hs])
  have e0 : err2 ⟨l.toArray⟩ ⟨b.toArray⟩ = 0 := err2_of (by simpa using hl) (by simpa using hb) (by show l.toArray.size = b.toArray.size; simp [hlb])
  have := in_cut e0 e1 e2
  simpa using this

theorem inB_flatMap (ls : List (List UInt8)) (b : List UInt8) (h : ByteArray) (width : Nat) (hb : Cu.right b = true ∧ b.length = width) (hls : ∀ l ∈ ls, Cu.right l = true ∧ l.length = width) (hx : hasX h = false) (hh : Cu.right h.data.toList = true) (hw : width = h.size) :
    inB (ls.flatMap fun l => Cu.cutL l b) h = (inB ls h && !hasB ⟨b.toArray⟩ h) := by
  induction ls with
  | nil => rfl
  | cons l ls ih =>
    have h1 := hls l (by simp)
    have ih' := ih (fun m hm => hls m (by simp [hm]))
    have hc := in_cutL h1.1 hb.1 (h1.2.trans hb.2.symm) hx hh (h1.2.trans hw)
    unfold inB at ih' hc ⊢
    rw [List.flatMap_cons, List.any_append, hc, ih', List.any_cons]
    cases hasB ⟨b.toArray⟩ h <;> simp

theorem take_any (ls : List (List UInt8)) (h : ByteArray) {k : Nat} (hk : k < ls.length) : inB (ls.take (k + 1)) h = (inB (ls.take k) h || hasB ⟨(ls.getD k []).toArray⟩ h) := by
  unfold inB
  rw [List.take_succ_eq_append_getElem hk, List.any_append, nth_at hk]
  simp

/-- P1.7. -/
theorem in_left {c h : ByteArray} {ls : List (List UInt8)} (he : errL (c.data.toList :: ls) = 0) (hh : errH c h = 0) : ∀ k, k ≤ ls.length → inB (leftTo c.data.toList ls k) h = (hasB c h && !inB (ls.take k) h) := by
  obtain ⟨e1, e2⟩ := errL_zero he
  obtain ⟨hx, e3⟩ := errH_zero hh
  obtain ⟨hr, _, hsz⟩ := err2_zero e3
  have hc : Cu.right c.data.toList = true ∧ c.data.toList.length = c.size := ⟨e1 0 (by simp), rfl⟩
  have hls : ∀ i, i < ls.length → Cu.right (ls.getD i []) = true ∧ (ls.getD i []).length = c.size := fun i hi =>
    ⟨by have := e1 (i + 1) (by simp; omega); simpa using this, by have := e2 (i + 1) (by simp; omega); simpa using this⟩
  intro k
  induction k with
  | zero =>
    intro _
    show inB [c.data.toList] h = (hasB c h && !inB [] h)
    unfold inB
    have : (⟨c.data.toList.toArray⟩ : ByteArray) = c := by rw [Array.toArray_toList]
    simp [this]
  | succ k ih =>
    intro hk
    have hk' : k < ls.length := by omega
    rw [leftTo, inB_flatMap _ _ h c.size (hls k hk') (leftTo_right hc hls k (by omega)) hx hr hsz.symm, ih (by omega), take_any ls h hk']
    cases hasB c h <;> cases inB (ls.take k) h <;> simp

theorem in_leftR {c h : ByteArray} {ls : List (List UInt8)} (he : errA c ls = 0) (hh : errH c h = 0) : inB (leftR c ls) h = (hasB c h && !inB ls h) := by
  have e : leftR c ls = leftTo c.data.toList ls ls.length := by simp [leftR, he]
  rw [e, in_left (errA_zero he).1 hh ls.length (Nat.le_refl _), List.take_length]

set_option maxHeartbeats 2000000 in
theorem all_few (c h : ByteArray) (ao : Option Addr) (n cap : Nat) (ls : List (List UInt8)) (w : World) (hlen : n ≤ 8) (hs : Src w (.slice ao n cap) ls) (hr : Row w (.slice ao n cap) ls) (hn : ls.length ≤ 8) :
    Calls Try.prog 8 #[.string c, .slice ao n cap, .string h] w fun e w' => e = .returned (.bool true) ∧ Below w.heap.size w w' := by
  have HS := hid hs
  have HR := hid hr
  clear hs hr
  have hlt : ¬ (8 : Int) < (n : Int) := by omega
  go_enter Try.func8, Try.ntmps8
  go_wp2_with fail
  refine (Left_any c (.slice ao n cap) ls w HS.out hn).mono ?_
  rintro e w1 ⟨v1, rfl, r1, hb1⟩
  have R1 := hid r1
  clear r1
  go_wp2_with fail
  refine (Has_any c h _).mono ?_
  rintro e w2 ⟨rfl, hb2⟩
  have B2 := hid (below2 hb1 hb2)
  have RL := hid (R1.out.below hb2 (Nat.le_refl _))
  have RV := hid (HR.out.below B2.out (Nat.le_refl _))
  clear hb1 hb2
  by_cases e0 : errA c ls = 0
  · have e0b : (errA c ls != 0) = false := by rw [e0]; rfl
    by_cases e1 : errH c h = 0
    · have e1b : (errH c h != 0) = false := by rw [e1]; rfl
      have HIN := hid (in_leftR e0 e1)
      have HLL : Hid ((leftR c ls).length ≤ 1000000) := by
        have hm := (errA_zero e0).2
        have : leftR c ls = leftTo c.data.toList ls ls.length := by simp [leftR, e0]
        show _ ≤ _
        rw [this]
        have hq := of_decide_eq_false hm
        exact Nat.le_trans (Nat.le_of_not_lt (fun hh => hq ⟨ls.length, Nat.le_refl _, hh⟩)) (by omega)
      clear e0 e1
      go_wp2_with fail
      have q := in_any (leftR c ls) v1 h w2 RL.out HLL.out
      rw [HIN.out] at q
      obtain ⟨x, hx⟩ : ∃ x, x = hasB c h := ⟨_, rfl⟩
      rw [← hx]
      rw [← hx] at q
      clear hx
      cases x
      · refine q.mono ?_
        clear q
        rintro e w3 ⟨rfl, hb3⟩
        have B3 := hid (below2 B2.out hb3)
        go_wp2_with fail
        refine (alive_any _).mono ?_
        rintro e w4 ⟨rfl, hb4⟩
        go_wp2
        go_ret
        exact ⟨rfl, below2 B3.out hb4⟩
      · obtain ⟨y, hy⟩ : ∃ y, y = inB ls h := ⟨_, rfl⟩
        have HY := hid hy
        rw [← hy] at q
        clear hy
        refine q.mono ?_
        clear q
        rintro e w3 ⟨rfl, hb3⟩
        have B3 := hid (below2 B2.out hb3)
        have RV3 := hid (RV.out.below hb3 (Nat.le_refl _))
        go_wp2_with fail
        have q := in_any ls (.slice ao n cap) h w3 RV3.out (by omega)
        rw [← HY.out] at q
        refine q.mono ?_
        clear q
        rintro e w4 ⟨rfl, hb4⟩
        have B4 := hid (below2 B3.out hb4)
        cases y
        · go_wp2_with fail
          refine (alive_any _).mono ?_
          rintro e w5 ⟨rfl, hb5⟩
          go_wp2
          go_ret
          exact ⟨rfl, below2 B4.out hb5⟩
        · go_wp2_with fail
          refine (alive_any _).mono ?_
          rintro e w5 ⟨rfl, hb5⟩
          go_wp2
          go_ret
          exact ⟨rfl, below2 B4.out hb5⟩
    · have e1b : (errH c h != 0) = true := by rw [bne_iff_ne]; exact e1
      clear e0 e1
      go_wp2_with fail
      refine (alive_any _).mono ?_
      rintro e w3 ⟨rfl, hb3⟩
      go_wp2
      go_ret
      exact ⟨rfl, below2 B2.out hb3⟩
  · have e0b : (errA c ls != 0) = true := by rw [bne_iff_ne]; exact e0
    clear e0
    go_wp2_with fail
    refine (alive_any _).mono ?_
    rintro e w3 ⟨rfl, hb3⟩
    go_wp2
    go_ret
    exact ⟨rfl, below2 B2.out hb3⟩

set_option maxHeartbeats 2000000 in
theorem all_many (c h : ByteArray) (b o n cap : Nat) (ls : List (List UInt8)) (w : World) (hlen : 8 < n) (hcap : n ≤ cap) (hmax : n ≤ maxLen) (hs : Src w (.slice (some ⟨b, o, none⟩) 8 cap) ls) (hr : Row w (.slice (some ⟨b, o, none⟩) 8 cap) ls) (hn : ls.length ≤ 8) :
    Calls Try.prog 8 #[.string c, .slice (some ⟨b, o, none⟩) n cap, .string h] w fun e w' => e = .returned (.bool true) ∧ Below w.heap.size w w' := by
  have HS := hid hs
  have HR := hid hr
  clear hs hr
  unfold maxLen at hmax
  have hlt : (8 : Int) < (n : Int) := by omega
  go_enter Try.func8, Try.ntmps8
  go_wp2_with fail
  refine (Left_any c (.slice (some ⟨b, o, none⟩) 8 cap) ls w HS.out hn).mono ?_
  rintro e w1 ⟨v1, rfl, r1, hb1⟩
  have R1 := hid r1
  clear r1
  go_wp2_with fail
  refine (Has_any c h _).mono ?_
  rintro e w2 ⟨rfl, hb2⟩
  have B2 := hid (below2 hb1 hb2)
  have RL := hid (R1.out.below hb2 (Nat.le_refl _))
  have RV := hid (HR.out.below B2.out (Nat.le_refl _))
  clear hb1 hb2
  by_cases e0 : errA c ls = 0
  · have e0b : (errA c ls != 0) = false := by rw [e0]; rfl
    by_cases e1 : errH c h = 0
    · have e1b : (errH c h != 0) = false := by rw [e1]; rfl
      have HIN := hid (in_leftR e0 e1)
      have HLL : Hid ((leftR c ls).length ≤ 1000000) := by
        have hm := (errA_zero e0).2
        have : leftR c ls = leftTo c.data.toList ls ls.length := by simp [leftR, e0]
        show _ ≤ _
        rw [this]
        have hq := of_decide_eq_false hm
        exact Nat.le_trans (Nat.le_of_not_lt (fun hh => hq ⟨ls.length, Nat.le_refl _, hh⟩)) (by omega)
      clear e0 e1
      go_wp2_with fail
      have q := in_any (leftR c ls) v1 h w2 RL.out HLL.out
      rw [HIN.out] at q
      obtain ⟨x, hx⟩ : ∃ x, x = hasB c h := ⟨_, rfl⟩
      rw [← hx]
      rw [← hx] at q
      clear hx
      cases x
      · refine q.mono ?_
        clear q
        rintro e w3 ⟨rfl, hb3⟩
        have B3 := hid (below2 B2.out hb3)
        go_wp2_with fail
        refine (alive_any _).mono ?_
        rintro e w4 ⟨rfl, hb4⟩
        go_wp2
        go_ret
        exact ⟨rfl, below2 B3.out hb4⟩
      · obtain ⟨y, hy⟩ : ∃ y, y = inB ls h := ⟨_, rfl⟩
        have HY := hid hy
        rw [← hy] at q
        clear hy
        refine q.mono ?_
        clear q
        rintro e w3 ⟨rfl, hb3⟩
        have B3 := hid (below2 B2.out hb3)
        have RV3 := hid (RV.out.below hb3 (Nat.le_refl _))
        go_wp2_with fail
        have q := in_any ls (.slice (some ⟨b, o, none⟩) 8 cap) h w3 RV3.out (by omega)
        rw [← HY.out] at q
        refine q.mono ?_
        clear q
        rintro e w4 ⟨rfl, hb4⟩
        have B4 := hid (below2 B3.out hb4)
        cases y
        · go_wp2_with fail
          refine (alive_any _).mono ?_
          rintro e w5 ⟨rfl, hb5⟩
          go_wp2
          go_ret
          exact ⟨rfl, below2 B4.out hb5⟩
        · go_wp2_with fail
          refine (alive_any _).mono ?_
          rintro e w5 ⟨rfl, hb5⟩
          go_wp2
          go_ret
          exact ⟨rfl, below2 B4.out hb5⟩
    · have e1b : (errH c h != 0) = true := by rw [bne_iff_ne]; exact e1
      clear e0 e1
      go_wp2_with fail
      refine (alive_any _).mono ?_
      rintro e w3 ⟨rfl, hb3⟩
      go_wp2
      go_ret
      exact ⟨rfl, below2 B2.out hb3⟩
  · have e0b : (errA c ls != 0) = true := by rw [bne_iff_ne]; exact e0
    clear e0
    go_wp2_with fail
    refine (alive_any _).mono ?_
    rintro e w3 ⟨rfl, hb3⟩
    go_wp2
    go_ret
    exact ⟨rfl, below2 B2.out hb3⟩

end Go.Proofs.Ytfgdikhpabapkaa
