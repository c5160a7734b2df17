/-
  The law BddLaws: what it makes of its cubes.
-/
import Derived.Test.YtffngpdngjfcfaaBLive
namespace Go.Proofs.Ytffngpdngjfcfaa
open Go.RowKit Go.Maps
open Bd (Nd ff tt iteF)

theorem came_below {w w' : World} {a0 : Option Addr} {len cap : Nat} {ss : List ByteArray} (h : Came w a0 len cap ss) (hb : Below w.heap.size w w') : Came w' a0 len cap ss := by
  rcases h with h | ⟨a, h1, h2, h3, h4, h5, h6⟩
  · exact Or.inl h
  · refine Or.inr ⟨a, h1, h2, h3, h4, fun i hi => ?_, h6⟩
    obtain ⟨⟨g, o, rfl⟩, hl⟩ := addr_of (h5 0 (by omega))
    have := h5 i hi
    rw [addr_add] at this ⊢
    rw [hb.cell (p := ⟨g, o + i, none⟩) hl]
    exact this

/-- The first k of n. -/
def pre : Nat → Nat → List Bool
  | 0, _ => []
  | n + 1, 0 => false :: pre n 0
  | n + 1, k + 1 => true :: pre n k
theorem pre_length (n k : Nat) : (pre n k).length = n := by
  induction n generalizing k with
  | zero => rfl
  | succ n ih => cases k <;> simp [pre, ih]
theorem pre_none (n : Nat) : num (pre n 0) = 0 := by
  induction n with
  | zero => rfl
  | succ n ih => simp [pre, num, ih]
theorem or_pre0 (ts : List ByteArray) (n k : Nat) : orL ts (pre n 0) k = ff := or_none _ _ _ (pre_none n)
theorem or_step (ts : List ByteArray) (k : Nat) (t : ByteArray) (h : ts[k]? = some t) : orL ts (pre ts.length (k + 1)) 0 = iteF (orL ts (pre ts.length k) 0) tt (suf t 0) := by
  induction ts generalizing k with
  | nil => simp at h
  | cons t' ts ih =>
    cases k with
    | zero =>
      simp at h
      subst h
      funext x
      show ((true && suf t' 0 x) || orL ts (pre ts.length 0) 0 x) = if ((false && suf t' 0 x) || orL ts (pre ts.length 0) 0 x) then true else suf t' 0 x
      rw [or_pre0]
      show ((true && suf t' 0 x) || false) = if ((false && suf t' 0 x) || false) then true else suf t' 0 x
      cases suf t' 0 x <;> rfl
    | succ k =>
      have e := ih k (by simpa using h)
      funext x
      show ((true && suf t' 0 x) || orL ts (pre ts.length (k + 1)) 0 x) = if ((true && suf t' 0 x) || orL ts (pre ts.length k) 0 x) then true else suf t 0 x
      rw [e]
      show ((true && suf t' 0 x) || (if orL ts (pre ts.length k) 0 x then true else suf t 0 x)) = _
      cases suf t' 0 x <;> cases orL ts (pre ts.length k) 0 x <;> rfl

theorem fn_and (a s : Bd.Fn) : iteF a (notF s) ff = dif a s := by funext x; unfold dif notF iteF ff tt; cases a x <;> cases s x <;> rfl
theorem fn_or (a s : Bd.Fn) : iteF (notF a) tt s = notF (dif a s) := by funext x; unfold dif notF iteF ff tt; cases a x <;> cases s x <;> rfl
theorem fn_absorb (a s : Bd.Fn) : iteF a tt (dif a s) = a := by funext x; unfold dif iteF ff tt; cases a x <;> cases s x <;> rfl
theorem fn_middle (s : Bd.Fn) : iteF s tt (notF s) = tt := by funext x; unfold notF iteF ff tt; cases s x <;> rfl
theorem fn_none (s : Bd.Fn) : iteF s (notF s) ff = ff := by funext x; unfold notF iteF ff tt; cases s x <;> rfl

section
variable {nb M : Nat} {A : Bd.Fam nb M} {B : Nat} {w0 w w' : World} {tb K : Nat} {fs : List (Nat × Bd.Fn)} {hs : List (Nat × Obj)}
theorem Live.as {r : Nat} {f f' : Bd.Fn} (h : Live A B w0 w tb K ((r, f) :: fs) hs) (e : f = f') : Live A B w0 w tb K ((r, f') :: fs) hs := e ▸ h
theorem Live.cell {g : Nat} {cur : Array Value} {t : TypeId} (h : Live A B w0 w tb K fs [(g, .cells cur t (0, 0))]) (o : Nat) : w.cell? ⟨g, o, none⟩ = cur[o]? := cell_at (h.held List.mem_cons_self)
end

/-- The laws' table with cubes, all of which are right. -/
structure LawAt (nb : Nat) (w0 w : World) (tb n g cap r0 : Nat) : Prop where
  ex : ∃ (t0 : ByteArray) (ts : List ByteArray) (h0 : t0.size = nb) (hs : ∀ t, t ∈ ts → t.size = nb) (hl : ts.length ≤ 11) (fs : List (Nat × Bd.Fn)) (rs : List Nat) (cur : Array Value), ts.length = n ∧ rs.length = n ∧ n + 1 ≤ cap ∧ cap ≤ maxLen ∧ cur[0]? = some (.int .i64 r0) ∧ (∀ i r : Nat, rs[i]? = some r → cur[i + 1]? = some (.int .i64 r)) ∧
    (r0, suf t0 0) ∈ fs ∧ FnsOf fs rs (ts.map fun t => suf t 0) ∧ Live (lawFam nb t0 ts h0 hs hl) w0.heap.size w0 w tb (n + 1) fs [(g, .cells cur 25 (0, 0))]

theorem Made.law {nb : Nat} {w0 w : World} {tb : Nat} {ss : List ByteArray} {n k : Nat} {v : Value} {t0 : ByteArray} {ts : List ByteArray} {h0 : t0.size = nb} {hs : ∀ t, t ∈ ts → t.size = nb} {hl : ts.length ≤ 11} {y : Lay} {L : List Nd} {roots ls ns : List Nat}
    (h : Made (lawFam nb t0 ts h0 hs hl) w0.heap.size w0 w tb ss k v y L roots ls ns) (hk : k = n + 1) (e0 : t0 = ss.getD 0 ByteArray.empty) (es : ts = (List.range n).map fun i => ss.getD (i + 1) ByteArray.empty) : ∃ g cap r0, v = .slice (some ⟨g, 0, none⟩) (n + 1) cap ∧ LawAt nb w0 w tb n g cap r0 := by
  subst hk
  obtain ⟨g, cap, cur, hv, hc1, hc2, hc, hL⟩ := h.live (Nat.succ_pos n)
  refine ⟨g, cap, ls.getD 0 0, hv, t0, ts, h0, hs, hl, _, (List.range n).map fun i => ls.getD (i + 1) 0, cur, by rw [es]; simp, by simp, hc1, hc2, hc 0 (by omega), fun i r hi => ?_, ?_, ?_, hL⟩
  · have hi' : i < n := by have := Bd.getElem?_lt hi; simpa using this
    rw [List.getElem?_map, List.getElem?_range hi'] at hi
    simp at hi
    rw [hc (i + 1) (by omega), List.getD_eq_getElem?_getD, ← hi]
  · rw [e0]
    exact List.mem_map.2 ⟨0, List.mem_range.2 (by omega), rfl⟩
  · rw [es]
    refine ⟨by simp, fun i r hi => ?_⟩
    have hi' : i < n := by have := Bd.getElem?_lt hi; simpa using this
    rw [List.getElem?_map, List.getElem?_range hi'] at hi
    simp at hi
    refine ⟨suf (ss.getD (i + 1) ByteArray.empty) 0, ?_, ?_⟩
    · rw [List.getElem?_map, List.getElem?_map, List.getElem?_range hi']; rfl
    · exact List.mem_map.2 ⟨i + 1, List.mem_range.2 (by omega), by rw [List.getD_eq_getElem?_getD, hi]⟩

set_option maxHeartbeats 1000000 in
theorem cubes_bad (bits : Int) (h : bits < 1 ∨ 128 < bits) (v : Value) (w : World) : Calls Try.prog 18 #[.int .i64 bits, v] w fun e w' => (∃ p v, e = .returned (.tuple #[p, v, .bool false]) ∧ Below w.heap.size w w') := by
  have Q := keep (New_err w bits h)
  clear h
  go_enter Try.func18, Try.ntmps18
  go_wp2_with fail
  refine Q.out.mono ?_
  rintro e w1 ⟨rfl, rfl⟩
  clear Q
  go_wp2
  go_ret3
  exact ⟨_, _, rfl, Below.refl _ _⟩

theorem cubes_law {bits : Int} (a0 : Option Addr) (len cap : Nat) (ss : List ByteArray) (w : World) (h3 : 3 ≤ len) (h12 : len ≤ 12) (hv : Came w a0 len cap ss) :
    Calls Try.prog 18 #[.int .i64 bits, .slice a0 len cap] w fun e w' => (∃ p v, e = .returned (.tuple #[p, v, .bool false]) ∧ Below w.heap.size w w') ∨ (∃ tb nb g c r0, 1 ≤ nb ∧ nb ≤ 128 ∧ e = .returned (.tuple #[.pointer (some ⟨tb, 0, none⟩), .slice (some ⟨g, 0, none⟩) (len - 1 + 1) c, .bool true]) ∧ LawAt nb w w' tb (len - 1) g c r0) := by
  by_cases hok : 1 ≤ bits ∧ bits ≤ 128
  · obtain ⟨nb, rfl⟩ : ∃ nb : Nat, bits = (nb : Int) := ⟨bits.toNat, by omega⟩
    have h1 : 1 ≤ nb := by omega
    have h2 : nb ≤ 128 := by omega
    have hsl : ∀ i, i < len → i < ss.length := fun i hi => (text_of hv hi).choose_spec.choose_spec.2.2.2
    by_cases hall : ∀ i, i < len → (ss.getD i ByteArray.empty).size = nb
    · have hs : ∀ t, t ∈ ((List.range (len - 1)).map fun i => ss.getD (i + 1) ByteArray.empty) → t.size = nb := by
        intro t ht
        rw [List.mem_map] at ht
        obtain ⟨i, hi, rfl⟩ := ht
        rw [List.mem_range] at hi
        exact hall (i + 1) (by omega)
      have hl : ((List.range (len - 1)).map fun i => ss.getD (i + 1) ByteArray.empty).length ≤ 11 := by simp; omega
      have hlen : len = len - 1 + 1 := by omega
      refine (cubes_any (lawFam nb (ss.getD 0 ByteArray.empty) ((List.range (len - 1)).map fun i => ss.getD (i + 1) ByteArray.empty) (hall 0 (by omega)) hs hl) a0 len cap ss w h1 h2 (by omega) (by omega) hv ?_).mono ?_
      · intro i hi _ _
        by_cases hi0 : i = 0
        · subst hi0; exact Or.inr (Or.inl rfl)
        · refine Or.inl ⟨(List.range (len - 1)).map fun j => decide (j + 1 = i), by simp, Or.inl ?_⟩
          have key : ∀ (n j0 : Nat), j0 < n → ∀ d : Nat, suf (ss.getD (d + j0) ByteArray.empty) 0 = orL ((List.range n).map fun j => ss.getD (d + j) ByteArray.empty) ((List.range n).map fun j => decide (j = j0)) 0 := by
            intro n
            induction n with
            | zero => intro j0 h; omega
            | succ n ih =>
              intro j0 hj d
              rw [List.range_succ_eq_map, List.map_cons, List.map_cons, List.map_map, List.map_map]
              cases j0 with
              | zero =>
                have e : orL (List.map ((fun j => ss.getD (d + j) ByteArray.empty) ∘ Nat.succ) (List.range n)) (List.map ((fun j => decide (j = 0)) ∘ Nat.succ) (List.range n)) 0 = ff := by
                  have z : ∀ l : List Nat, num (List.map ((fun j => decide (j = 0)) ∘ Nat.succ) l) = 0 := by
                    intro l
                    induction l with
                    | nil => rfl
                    | cons a l ih => simp only [List.map_cons, num, Function.comp, Nat.succ_ne_zero, decide_false, Bool.false_eq_true, if_false, Nat.zero_add]; rw [ih]
                  exact or_none _ _ _ (z _)
                funext x
                show suf (ss.getD d ByteArray.empty) 0 x = ((decide ((0 : Nat) = 0) && suf (ss.getD d ByteArray.empty) 0 x) || orL _ _ 0 x)
                rw [e]
                show _ = ((decide ((0 : Nat) = 0) && suf (ss.getD d ByteArray.empty) 0 x) || false)
                simp
              | succ j0 =>
                have e := ih j0 (by omega) (d + 1)
                funext x
                show suf (ss.getD (d + (j0 + 1)) ByteArray.empty) 0 x = ((decide ((0 : Nat) = j0 + 1) && suf (ss.getD d ByteArray.empty) 0 x) || orL _ _ 0 x)
                rw [show d + (j0 + 1) = d + 1 + j0 from by omega, e]
                have e1 : (fun j => decide (j = j0 + 1)) ∘ Nat.succ = fun j => decide (j = j0) := by funext j; simp [Function.comp]
                have e2 : (fun j => ss.getD (d + j) ByteArray.empty) ∘ Nat.succ = fun j => ss.getD (d + 1 + j) ByteArray.empty := by funext j; show ss.getD (d + (j + 1)) _ = _; rw [show d + (j + 1) = d + 1 + j from by omega]
                rw [e1, e2]
                simp
          have := key (len - 1) (i - 1) (by omega) 1
          rw [show 1 + (i - 1) = i from by omega] at this
          have e1 : (fun j => ss.getD (1 + j) ByteArray.empty) = fun j => ss.getD (j + 1) ByteArray.empty := by funext j; rw [Nat.add_comm]
          have e2 : (fun j => decide (j = i - 1)) = fun j => decide (j + 1 = i) := by funext j; rw [decide_eq_decide]; omega
          rw [e1, e2] at this
          exact this
      · rintro e w' (h | ⟨tb, v, rfl, y, L, roots, ls, ns, hM⟩)
        · exact Or.inl h
        · obtain ⟨g, c, r0, hv', hA⟩ := hM.law hlen rfl rfl
          exact Or.inr ⟨tb, nb, g, c, r0, h1, h2, by rw [hv'], hA⟩
    · refine (cubes_any (refFam nb ss) a0 len cap ss w h1 h2 (by omega) (by omega) hv ?_).mono ?_
      · intro i hi hsz _
        refine Or.inl ⟨ss.getD i ByteArray.empty, ?_, rfl⟩
        unfold fitting
        rw [List.mem_filter]
        refine ⟨?_, by simpa using hsz⟩
        have hks := hsl i hi
        rw [List.getD_eq_getElem?_getD, List.getElem?_eq_getElem hks]
        refine List.mem_iff_getElem.2 ⟨i, by rw [List.length_take]; omega, ?_⟩
        rw [List.getElem_take]; rfl
      · rintro e w' (h | ⟨tb, v, rfl, y, L, roots, ls, ns, hM⟩)
        · exact Or.inl h
        · exact absurd (fun i hi => (hM.right i hi).1) hall
  · exact (cubes_bad bits (by omega) _ w).mono fun e w' h => Or.inl h
end Go.Proofs.Ytffngpdngjfcfaa
