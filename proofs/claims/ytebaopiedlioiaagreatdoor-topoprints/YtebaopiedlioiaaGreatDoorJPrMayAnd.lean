/-
  The ends of links that are taken: a map of numbers by device and port; ends.add.
  m[k]++ of a map told key by key: the entry first or the look-up first.
  A map of whole numbers in memory, told key by key.
  The program's namesMayBe and deviceMayBe.
-/
import Derived.Test.YtebaopiedlioiaaGreatDoorJDocPAnd
import Derived.Test.YtebaopiedlioiaaGreatDoorJDocNAnd
import Derived.Test.YtebaopiedlioiaaGreatDoorJDocKAnd
import Derived.WalkKit
import Derived.Maps.OwnSet
import Derived.WideKeyEntry
import Derived.Test.YtebaopiedlioiaaGreatDoorWRefSAnd
import Derived.DeepKeys5
namespace Go.Proofs.YtebaopiedlioiaaGreatDoor
open Go.RowKit

set_option maxRecDepth 20000 in
set_option maxHeartbeats 2000000 in
theorem onamesMayBe_any {w : World} {v : Value} {ps : List (List UInt8)} (ht : Txs w v ps) (hz : ∀ p ∈ ps, p.length ≤ maxLen) (hn : ps.length ≤ maxLen) (most : Nat) :
    Calls Tryz.prog 110 #[v, .int .i64 most] w fun e w' => e = .returned (.bool (nmsB most ps)) ∧ w' = w := by
  obtain ⟨ao, cap, rfl, hr⟩ := ht
  have HZ := hid hz
  have HR := hid hr
  obtain ⟨n, hnn⟩ : ∃ n, n = ps.length := ⟨_, rfl⟩
  have HN := hid hnn
  rw [← hnn] at hn ⊢
  have hnb : n ≤ 9223372036854775807 := by unfold maxLen at hn; omega
  clear hr hz hnn hn
  by_cases hmost : (most : Int) < (n : Int)
  · have HE := hid (show nmsB most ps = false by unfold nmsB; rw [decide_eq_false (by have := HN.out; omega)]; simp)
    go_enter Tryz.func110, Tryz.ntmps110
    go_wp2
    go_ret
    exact ⟨by rw [HE.out]; rfl, rfl⟩
  go_enter Tryz.func110, Tryz.ntmps110
  go_wp2_with fail
  go_loopw [5, 6, 13] (fun _ _ i wr => ∃ j : Nat, j ≤ n ∧ i = .int .i64 j ∧ Hid (∀ i, i < j → nmB ps i = true) ∧ Hid (wr = w)) (fun _ _ i _ => n - (intOf i).toNat)
  case atStart => exact ⟨0, Nat.zero_le _, rfl, hid fun i h => absurd h (Nat.not_lt_zero _), hid rfl⟩
  case round =>
    obtain ⟨j, hj, rfl, HG, HB⟩ := hrel
    obtain rfl := HB.out
    by_cases hlt : j < n
    · obtain ⟨g, o, hao, hg, hc⟩ : ∃ g o, ao = some ⟨g, o, none⟩ ∧ g < wr.heap.size ∧ ∀ i, i < ps.length → wr.cell? ⟨g, o + i, none⟩ = some (.string (tx (ps.getD i []))) := by
        rcases HR.out with q | q
        · exfalso; have := HN.out; rw [q] at this; simp at this; omega
        · exact q
      subst hao
      have HC := hid hc
      have HJ := hid (show j < ps.length by rw [← HN.out]; exact hlt)
      obtain ⟨p, hpq⟩ : ∃ p, p = ps.getD j [] := ⟨_, rfl⟩
      have HPQ := hid hpq
      have HU := hid (fun w' => Name_any (tx p) w' (by rw [tx_size, hpq]; exact HZ.out _ (mem_getD HJ.out)))
      rw [show (tx p).data.toList = p from by simp] at HU
      have c0 := HC.out j HJ.out
      rw [← hpq] at c0
      have i0 : (0 : Int) ≤ (j : Int) := by omega
      have i1 : (j : Int) < (n : Int) := by omega
      clear hc hpq hmost
      cases hnm : Wo.nameB p with
      | false =>
        have HNM := hid hnm
        rw [hnm] at HU
        clear hnm
        have HFIN := hid (show nmsB most ps = false from nmsB_false HJ.out (nmB_bad (by rw [← HPQ.out]; exact HNM.out)))
        go_wp2_with fail
        refine (HU.out _).mono ?_
        rintro en w1 ⟨rfl, hw1⟩
        obtain rfl : wr = w1 := hw1.symm
        go_wp2
        go_ret
        exact ⟨by rw [HFIN.out]; rfl, rfl⟩
      | true =>
        have HNM := hid hnm
        rw [hnm] at HU
        clear hnm
        cases j with
        | zero =>
          rw [Nat.add_zero] at c0
          have HG1 := hid (show ∀ i, i < 1 → nmB ps i = true from fun i hi => by rw [show i = 0 by omega]; exact nmB_zero (by rw [← HPQ.out]; exact HNM.out))
          go_wp2_with fail
          refine (HU.out _).mono ?_
          rintro en w1 ⟨rfl, hw1⟩
          obtain rfl : wr = w1 := hw1.symm
          go_wp2
          go_roundw
          case rel => exact ⟨1, by omega, by first | rfl | go_num, HG1, hid trivial⟩
          case measure => simp [intOf]; omega
        | succ i =>
          have c1 := HC.out i (by have := HJ.out; omega)
          obtain ⟨q, hq⟩ : ∃ q, q = ps.getD i [] := ⟨_, rfl⟩
          have HQ := hid hq
          rw [← hq] at c1
          have hpos : (0 : Int) < (i : Int) + 1 := by omega
          have hneg : (0 : Int) ≤ (i : Int) := by omega
          have hilt : (i : Int) < (n : Int) := by omega
          have k0 : (0 : Int) ≤ (i : Int) + 1 := by omega
          have k1 : (i : Int) + 1 < (n : Int) := by omega
          clear hq i0 i1
          cases hless : Op.bytesLess q p with
          | true =>
            have HL := hid (show q < p by rw [bytesLess_eq] at hless; simpa using hless)
            have HG1 := hid (show ∀ a, a < i + 1 + 1 → nmB ps a = true from fun a ha => by
              by_cases e : a = i + 1
              · rw [e]; exact nmB_succ (by rw [← HPQ.out]; exact HNM.out) (by rw [← HPQ.out, ← HQ.out]; exact HL.out)
              · exact HG.out a (by omega))
            go_wp2_with fail
            refine (HU.out _).mono ?_
            rintro en w1 ⟨rfl, hw1⟩
            obtain rfl : wr = w1 := hw1.symm
            go_wp2
            go_roundw
            case rel => exact ⟨i + 1 + 1, by omega, by go_num, HG1, hid trivial⟩
            case measure => simp [intOf]; omega
          | false =>
            have HL := hid (show ¬ q < p by rw [bytesLess_eq] at hless; simpa using hless)
            have HFIN := hid (show nmsB most ps = false from nmsB_false HJ.out (nmB_not (by rw [← HPQ.out, ← HQ.out]; exact HL.out)))
            go_wp2_with fail
            refine (HU.out _).mono ?_
            rintro en w1 ⟨rfl, hw1⟩
            obtain rfl : wr = w1 := hw1.symm
            go_wp2
            go_ret
            exact ⟨by rw [HFIN.out]; rfl, rfl⟩
    · have hI : ¬ ((j : Int) < (n : Int)) := by omega
      have hjn : j = n := by omega
      have HEQ := hid (show nmsB most ps = true by
        rw [nmsB_end (fun i hi => HG.out i (by have := HN.out; omega))]; exact decide_eq_true (by have := HN.out; omega))
      go_wp2
      go_ret
      exact ⟨by rw [HEQ.out]; rfl, rfl⟩

set_option maxRecDepth 20000 in
set_option maxHeartbeats 2000000 in
theorem odeviceMayBe_any {w : World} {nm : List UInt8} {cs ps : List (List UInt8)} {u v : Value} (hu : Txs w u cs) (hv : Txs w v ps) (hz1 : nm.length ≤ maxLen) (hz2 : ∀ p ∈ cs, p.length ≤ maxLen) (hz3 : ∀ p ∈ ps, p.length ≤ maxLen) (hl2 : cs.length ≤ maxLen) (hl3 : ps.length ≤ maxLen) :
    Calls Tryz.prog 75 #[.agg #[.string (tx nm), u, v]] w fun e w' => e = .returned (.bool ((Wo.nameB nm && nmsB 16 cs) && nmsB 64 ps)) ∧ Below w.heap.size w w' := by
  have HU := hid (fun w' => Name_any (tx nm) w' (by rw [tx_size]; exact hz1))
  rw [show (tx nm).data.toList = nm from by simp] at HU
  have HC := hid (fun (W : World) (hb : Below w.heap.size w W) => onamesMayBe_any (hu.below hb) hz2 hl2 16)
  have HP := hid (fun (W : World) (hb : Below w.heap.size w W) => onamesMayBe_any (hv.below hb) hz3 hl3 64)
  obtain ⟨ac, cc, rfl, -⟩ := hu
  obtain ⟨ap, cp, rfl, -⟩ := hv
  obtain ⟨Lc, hLc⟩ : ∃ L, L = cs.length := ⟨_, rfl⟩
  obtain ⟨Lp, hLp⟩ : ∃ L, L = ps.length := ⟨_, rfl⟩
  rw [← hLc] at HC ⊢
  rw [← hLp] at HP ⊢
  have HB := hid (fun (o : Obj) => (show Below w.heap.size w (w.alloc o) from (Below.refl _ _).alloc (Nat.le_refl _) _))
  clear hLc hLp hz1 hz2 hz3 hl2 hl3
  cases hn : Wo.nameB nm with
  | false =>
    rw [hn] at HU
    go_enter Tryz.func75, Tryz.ntmps75
    go_wp2_with fail
    refine (HU.out _).mono ?_
    rintro en w1 ⟨rfl, rfl⟩
    go_wp2
    go_ret
    exact ⟨rfl, HB.out _⟩
  | true =>
    rw [hn] at HU
    cases hc : nmsB 16 cs with
    | false =>
      rw [hc] at HC
      go_enter Tryz.func75, Tryz.ntmps75
      go_wp2_with fail
      refine (HU.out _).mono ?_
      rintro en w1 ⟨rfl, rfl⟩
      go_wp2_with fail
      refine (HC.out _ (HB.out _)).mono ?_
      rintro en w1 ⟨rfl, rfl⟩
      go_wp2
      go_ret
      exact ⟨rfl, HB.out _⟩
    | true =>
      rw [hc] at HC
      go_enter Tryz.func75, Tryz.ntmps75
      go_wp2_with fail
      refine (HU.out _).mono ?_
      rintro en w1 ⟨rfl, rfl⟩
      go_wp2_with fail
      refine (HC.out _ (HB.out _)).mono ?_
      rintro en w1 ⟨rfl, rfl⟩
      go_wp2_with fail
      refine (HP.out _ (HB.out _)).mono ?_
      rintro en w1 ⟨rfl, rfl⟩
      go_wp2
      go_ret
      exact ⟨rfl, HB.out _⟩
end Go.Proofs.YtebaopiedlioiaaGreatDoor
namespace Go.Proofs.YtebaopiedlioiaaGreatDoor
open Go.RowKit Go.Maps

/-- Block b is a map of sz entries: at a key that may be one, f says what it holds. -/
def MapOf (P : Program) (k e : TypeId) (w : World) (b sz : Nat) (f : Value → Option Int) : Prop :=
  ∃ D : DataW Unit, w.ownsMap P k (plainElem P e) b sz D ∧ Maps.size D = sz ∧
    ∀ key kl, keyOf P k key = some kl → Maps.has D kl = (f key).isSome ∧ ∀ c, f key = some c → D.atKey kl (.lit (.int .i64 0)) = .lit (.int .i64 c)

theorem owns_tight {P : Program} {k e : TypeId} {w : World} {b n : Nat} {D : DataW Unit} (h : w.ownsMap P k (plainElem P e) b n D) : w.ownsMap P k (plainElem P e) b (Maps.size D) D := by
  obtain ⟨es, clock, hb, F, _, rfl⟩ := h
  exact ⟨es, clock, hb, F, by simp [Maps.size, length_sorted], rfl⟩

theorem MapOf.lt {P : Program} {k e : TypeId} {w : World} {b sz : Nat} {f : Value → Option Int} (h : MapOf P k e w b sz f) : b < w.heap.size := by
  obtain ⟨D, h, _⟩ := h
  exact h.lt

theorem MapOf.congr {P : Program} {k e : TypeId} {w : World} {b sz : Nat} {f g : Value → Option Int} (h : MapOf P k e w b sz f) (hfg : ∀ key kl, keyOf P k key = some kl → f key = g key) : MapOf P k e w b sz g := by
  obtain ⟨D, h1, h2, h3⟩ := h
  refine ⟨D, h1, h2, fun key kl hk => ?_⟩
  rw [← hfg key kl hk]
  exact h3 key kl hk

/-- A block that is as it was. -/
theorem MapOf.same {P : Program} {k e : TypeId} {w w' : World} {b sz : Nat} {f : Value → Option Int} (h : MapOf P k e w b sz f) (hb : w'.heap[b]? = w.heap[b]?) : MapOf P k e w' b sz f := by
  obtain ⟨D, ⟨es, clock, h1, F, hs, hD⟩, h2, h3⟩ := h
  exact ⟨D, ⟨es, clock, hb.trans h1, F, hs, hD⟩, h2, h3⟩

theorem MapOf.new (P : Program) (k e : TypeId) (w : World) : MapOf P k e (w.alloc (.map #[] 0)) w.heap.size 0 (fun _ => none) :=
  ⟨.map [], World.ownsMap_made w P k _, rfl, fun key kl _ => ⟨by simp [Maps.has], fun c h => by cases h⟩⟩

theorem MapOf.look {P : Program} {k e t : TypeId} {w : World} {b sz : Nat} {f : Value → Option Int} (h : MapOf P k e w b sz f) (K : Keyed P k) (ht : P.underlying t = some (.map k e)) (he : P.underlying e = some (.int .i64))
    (hz : (zeroValue e).run P w = .ok (.int .i64 0) w) {key : Value} {kl : Lit} (hk : keyOf P k key = some kl) :
    (Instr.lookup t (.map (some b)) key true).run P w = .ok (.tuple #[.int .i64 ((f key).getD 0), .bool (f key).isSome]) w := by
  obtain ⟨D, h1, h2, h3⟩ := h
  obtain ⟨v, ps, hrun, hv⟩ := h1.look_ok K ht hz (zd := .lit (.int .i64 0)) (zp := []) (plainElem_int he (by decide)) hk
  obtain ⟨c, rfl, hc, hwc⟩ := plainElem_int_inv he hv
  obtain ⟨h4, h5⟩ := h3 key kl hk
  rw [hrun, h4]
  cases hf : f key with
  | none =>
    have : D.atKey kl (.lit (.int .i64 0)) = .lit (.int .i64 0) := Maps.atKey_of_not_has (by rw [h4, hf]; rfl) _
    have hc' := congrArg Prod.fst hc
    simp only [this] at hc'
    cases hc'
    rfl
  | some c' =>
    have := h5 c' hf
    have hc' := congrArg Prod.fst hc
    simp only [this] at hc'
    cases hc'
    rfl

theorem MapOf.look1 {P : Program} {k e t : TypeId} {w : World} {b sz : Nat} {f : Value → Option Int} (h : MapOf P k e w b sz f) (K : Keyed P k) (ht : P.underlying t = some (.map k e)) (he : P.underlying e = some (.int .i64))
    (hz : (zeroValue e).run P w = .ok (.int .i64 0) w) {key : Value} {kl : Lit} (hk : keyOf P k key = some kl) :
    (Instr.lookup t (.map (some b)) key false).run P w = .ok (.int .i64 ((f key).getD 0)) w := by
  obtain ⟨D, h1, h2, h3⟩ := h
  obtain ⟨c, hrun, hc, hwc⟩ := h1.lookup_int K ht he hz hk
  obtain ⟨h4, h5⟩ := h3 key kl hk
  rw [hrun]
  cases hf : f key with
  | none =>
    have : D.atKey kl (.lit (.int .i64 0)) = .lit (.int .i64 0) := Maps.atKey_of_not_has (by rw [h4, hf]; rfl) _
    rw [this] at hc
    cases hc
    rfl
  | some c' =>
    rw [h5 c' hf] at hc
    cases hc
    rfl

theorem MapOf.len {P : Program} {k e t : TypeId} {w : World} {b sz : Nat} {f : Value → Option Int} (h : MapOf P k e w b sz f) (ht : P.underlying t = some (.map k e)) (ty : TypeId) :
    (Builtin.len_ #[t] ty #[.map (some b)]).run P w = .ok (.int .i64 sz) w := by
  obtain ⟨D, h1, h2, h3⟩ := h
  rw [h1.len ht ty, h2]

/-- f' is f but for one key. -/
def Upd (f : Value → Option Int) (key : Value) (c : Option Int) (f' : Value → Option Int) : Prop := f' key = c ∧ ∀ x, x ≠ key → f' x = f x
theorem upd_exists (f : Value → Option Int) (key : Value) (c : Option Int) : ∃ f', Upd f key c f' := by
  classical
  exact ⟨fun x => if x = key then c else f x, if_pos rfl, fun x hx => if_neg hx⟩

/-- Behind a store. -/
theorem mapOf_put {P : Program} {k e : TypeId} {w w' : World} {b sz : Nat} {f : Value → Option Int} (K : Keyed P k) {D : DataW Unit} (h1 : w.ownsMap P k (plainElem P e) b sz D) (h2 : Maps.size D = sz)
    (h3 : ∀ key kl, keyOf P k key = some kl → Maps.has D kl = (f key).isSome ∧ ∀ c, f key = some c → D.atKey kl (.lit (.int .i64 0)) = .lit (.int .i64 c)) {key : Value} {kl : Lit} (hk : keyOf P k key = some kl) {c : Int}
    (h4 : w'.ownsMap P k (plainElem P e) b (sz + 1) (D.put kl (.lit (.int .i64 c)))) : ∀ f', Upd f key (some c) f' → MapOf P k e w' b (if (f key).isSome then sz else sz + 1) f' := by
  intro f' hf'
  have hs : Maps.size (D.put kl (.lit (.int .i64 c))) = if (f key).isSome then sz else sz + 1 := by
    rw [Maps.size_put (h1.tidy K), (h3 key kl hk).1, h2]
  refine ⟨D.put kl (.lit (.int .i64 c)), ?_, hs, ?_⟩
  · have := owns_tight h4
    rw [hs] at this
    exact this
  · intro key' kl' hk'
    by_cases e1 : key' = key
    · subst e1
      have : kl' = kl := by rw [hk] at hk'; cases hk'; rfl
      subst this
      rw [hf'.1]
      refine ⟨by rw [Maps.has_put_same h1.isMap (K.key hk)]; rfl, ?_⟩
      intro c' hc'
      cases hc'
      exact Maps.atKey_put_same h1.isMap (K.key hk) _ _
    · have hne : kl' ≠ kl := fun e2 => e1 (K.inj hk' (by rw [e2]; exact hk))
      rw [hf'.2 _ e1, Maps.has_put_other hne, Maps.atKey_put_other hne]
      exact h3 key' kl' hk'

theorem wpList_store_of {P : Program} (w : World) {ops : Array Oper} {rest : List Oper} {o : Oper} {a : Act} {Q : Exit → Act → World → Prop}
    (hg : o.guard = none) (m x v : Operand) (t : TypeId) (hop : o.op = Op.mapUpdate t m x v)
    (k e : TypeId) (K : Keyed P k) (ht : P.underlying t = some (.map k e)) (he : P.underlying e = some (.int .i64)) (b sz : Nat) (f : Value → Option Int)
    (hm : a.eval m = .map (some b)) (hown : MapOf P k e w b sz f) (hn : sz < maxLen) (key : Value) (c : Int) (kl : Lit) (hx : a.eval x = key) (hv : a.eval v = .int .i64 c) (hkey : keyOf P k key = some kl) (hc : (Lit.int .i64 c).wf = true)
    (hK : ∀ w', (∀ f', Upd f key (some c) f' → MapOf P k e w' b (if (f key).isSome then sz else sz + 1) f') → w.grownBy w' (some b) → wpList P ops Q rest (a.put o.dst undef) w') :
    wpList P ops Q (o :: rest) a w := by
  obtain ⟨D, h1, h2, h3⟩ := hown
  refine wpList_mapUpdate_own w hg m x v t hop k e K ht (plainElem P e) b sz D hm h1 hn key (.int .i64 c) kl hx hv hkey (.lit (.int .i64 c)) [] (plainElem_int he hc) ?_
  intro w' h4 h5
  exact hK w' (mapOf_put K h1 h2 h3 hkey h4) h5

theorem wpList_delete_of {P : Program} (w : World) {ops : Array Oper} {rest : List Oper} {o : Oper} {a : Act} {Q : Exit → Act → World → Prop}
    (hg : o.guard = none) (m x : Operand) (t k : TypeId) (hop : o.op = Op.call { callee := Callee.builtin Builtin.delete, args := #[m, x], argTypes := #[t, k] })
    (e : TypeId) (K : Keyed P k) (ht : P.underlying t = some (.map k e)) (b sz : Nat) (f : Value → Option Int)
    (hm : a.eval m = .map (some b)) (hown : MapOf P k e w b sz f) (key : Value) (kl : Lit) (hx : a.eval x = key) (hkey : keyOf P k key = some kl)
    (hK : ∀ w', (∀ f', Upd f key none f' → MapOf P k e w' b (if (f key).isSome then sz - 1 else sz) f') → w.grownBy w' (some b) → wpList P ops Q rest (a.put o.dst (.tuple #[])) w') :
    wpList P ops Q (o :: rest) a w := by
  obtain ⟨D, h1, h2, h3⟩ := hown
  refine wpList_delete_own w hg m x t k hop e K ht (plainElem P e) b sz D hm h1 key kl hx hkey ?_
  intro w' h4 h5
  refine hK w' (fun f' hf' => ?_) h5.grown
  have hs : Maps.size (D.del kl) = if (f key).isSome then sz - 1 else sz := by
    have := Maps.size_del (k := kl) (h1.tidy K)
    rw [(h3 key kl hkey).1, h2] at this
    split at this
    · rename_i hh; rw [if_pos hh]; omega
    · rename_i hh; rw [if_neg hh]; omega
  refine ⟨D.del kl, ?_, hs, ?_⟩
  · have := owns_tight h4
    rw [hs] at this
    exact this
  · intro key' kl' hk'
    by_cases e1 : key' = key
    · subst e1
      have : kl' = kl := by rw [hkey] at hk'; cases hk'; rfl
      subst this
      rw [hf'.1]
      exact ⟨by rw [Maps.has_del_same]; rfl, fun c' hc' => by cases hc'⟩
    · have hne : kl' ≠ kl := fun e2 => e1 (K.inj hk' (by rw [e2]; exact hkey))
      rw [hf'.2 _ e1, Maps.has_del_other hne, Maps.atKey_del_other hne]
      exact h3 key' kl' hk'
end Go.Proofs.YtebaopiedlioiaaGreatDoor
namespace Go.Proofs.YtebaopiedlioiaaGreatDoor
open Go.RowKit Go.Maps

theorem MapOf.put_runU {P : Program} {k e t : TypeId} {w : World} {b sz : Nat} {f : Value → Option Int} (h : MapOf P k e w b sz f) (K : Keyed P k) (ht : P.underlying t = some (.map k e)) (he : P.underlying e = some (.int .i64)) (hn : sz < maxLen)
    {key : Value} {kl : Lit} (hk : keyOf P k key = some kl) {c : Int} (hc : (Lit.int .i64 c).wf = true) :
    ∃ w', (Instr.mapUpdate t (.map (some b)) key (.int .i64 c)).run P w = .ok () w' ∧ (∀ f', Upd f key (some c) f' → MapOf P k e w' b (if (f key).isSome then sz else sz + 1) f') ∧ w.grownBy w' (some b) := by
  obtain ⟨D, h1, h2, h3⟩ := h
  obtain ⟨w', hrun, r1, r2⟩ := h1.update K ht hn hk (val := .int .i64 c) (d := .lit (.int .i64 c)) (ps := []) (plainElem_int he hc)
  exact ⟨w', hrun, mapOf_put K h1 h2 h3 hk r1, r2⟩
theorem setBlock_at {w : World} {b : Nat} (hb : b < w.heap.size) (o : Obj) : (ChangeMaps.setBlock w b o).heap[b]? = some o := by
  unfold ChangeMaps.setBlock
  simp [hb]
theorem setBlock_grown (w : World) (b : Nat) (o : Obj) : w.grownBy (ChangeMaps.setBlock w b o) (some b) := by
  refine ⟨rfl, rfl, rfl, by simp [ChangeMaps.setBlock], fun i _ hne => ?_⟩
  show (w.heap.setIfInBounds b o)[i]? = _
  rw [Array.getElem?_setIfInBounds_ne (fun q => hne (by rw [q]))]
theorem setBlock_two (w : World) (b : Nat) (o o' : Obj) : ChangeMaps.setBlock (ChangeMaps.setBlock w b o) b o' = ChangeMaps.setBlock w b o' := by
  unfold ChangeMaps.setBlock
  simp [Array.setIfInBounds_setIfInBounds]

theorem MapOf.entry {P : Program} {k e t : TypeId} {w : World} {b sz : Nat} {f : Value → Option Int} (h : MapOf P k e w b sz f) (KL : WideMaps.KeyLaw P k) (ht : P.underlying t = some (.map k e)) (he : P.underlying e = some (.int .i64)) (hz : ∀ u : World, (zeroValue e).run P u = .ok (.int .i64 0) u) (hn : sz < maxLen)
    {key : Value} {kl : Lit} (hk : keyOf P k key = some kl) :
    ∃ v0 st w1, (Instr.mapEntry t (.map (some b)) key).run P w = .ok (.tuple #[v0, goInt st]) w1 ∧ w.grownBy w1 (some b) ∧
      (Instr.lookup t (.map (some b)) key false).run P w1 = .ok (.int .i64 ((f key).getD 0)) w1 ∧
      ∀ c : Int, (Lit.int .i64 c).wf = true → ∃ w2, (Instr.entryStore t (.map (some b)) (goInt st) (.int .i64 c)).run P w1 = .ok () w2 ∧ (∀ f', Upd f key (some c) f' → MapOf P k e w2 b (if (f key).isSome then sz else sz + 1) f') ∧ w.grownBy w2 (some b) := by
  have K := Keyed.of_law KL
  have h0 := h
  obtain ⟨D, ⟨es, clock, hb, F, hs, hD⟩, h2, h3⟩ := h
  obtain ⟨v0, st, es1, clock1, hrun, hor, hst⟩ := WideElems.entry_then_store KL ht hz hb F hk
  have hlt : b < w.heap.size := h0.lt
  refine ⟨v0, st, ChangeMaps.setBlock w b (.map es1 clock1), hrun, setBlock_grown _ _ _, ?_, fun c hc => ?_⟩
  · rcases KL.find w hk es.toList F.keys with ⟨q1, q2⟩ | ⟨j, e0, q1, q2, q3⟩
    · have r1 : (Instr.mapEntry t (.map (some b)) key).run P w = .ok (.tuple #[.int .i64 0, goInt clock]) (ChangeMaps.setBlock w b (.map (es.push ⟨key, .int .i64 0, clock⟩) (clock + 1))) := by
        simp [Instr.mapEntry, run_underlying ht, MapKept.run_getObj_map hb, KL.check w false hk, q1, hz, MapKept.run_setObj_map _ hb, Result.andThen, ChangeMaps.setBlock]
      have r2 : (Instr.mapUpdate t (.map (some b)) key (.int .i64 0)).run P w = .ok () (ChangeMaps.setBlock w b (.map (es.push ⟨key, .int .i64 0, clock⟩) (clock + 1))) := by
        simp [Instr.mapUpdate, run_underlying ht, MapKept.run_getObj_map hb, KL.check w false hk, q1, MapKept.run_setObj_map _ hb, Result.andThen, ChangeMaps.setBlock]
      rw [r1] at hrun
      have ew : ChangeMaps.setBlock w b (.map es1 clock1) = ChangeMaps.setBlock w b (.map (es.push ⟨key, .int .i64 0, clock⟩) (clock + 1)) := by
        injection hrun with _ e2
        exact e2.symm
      obtain ⟨w', p1, p2, _⟩ := h0.put_runU K ht he hn hk (c := 0) (by decide)
      rw [r2] at p1
      have ew' : w' = ChangeMaps.setBlock w b (.map es1 clock1) := by
        injection p1 with _ e2
        rw [← e2, ew]
      obtain ⟨f', hf'⟩ := upd_exists f key (some 0)
      have M1 := p2 f' hf'
      rw [ew'] at M1
      have L1 := M1.look1 K ht he (hz _) hk
      rw [hf'.1] at L1
      have L0 := h0.look1 K ht he (hz _) hk
      have L00 : (Instr.lookup t (.map (some b)) key false).run P w = .ok (.int .i64 0) w := by
        simp [Instr.lookup, run_underlying ht, MapKept.run_getObj_map hb, KL.check w es.isEmpty hk, q1, hz, Result.andThen]
      rw [L00] at L0
      have e0 : (f key).getD 0 = 0 := by
        injection L0 with e1 _
        injection e1 with _ e3
        exact e3.symm
      rw [e0]
      exact L1
    · have hj : es[j]? = some e0 := by simpa using q2
      have hsame : es.modify j (fun e => { e with key := key }) = es := by
        apply Array.ext'
        rw [Array.toList_modify, ChangeMaps.modify_eq_set _ _ _ _ q2]
        have : ({ e0 with key := key } : MapEntry) = e0 := by rw [← q3]
        rw [this]
        exact WideElems.set_self _ _ _ q2
      have r1 : (Instr.mapEntry t (.map (some b)) key).run P w = .ok (.tuple #[e0.val, goInt e0.born]) (ChangeMaps.setBlock w b (.map es clock)) := by
        simp [Instr.mapEntry, run_underlying ht, MapKept.run_getObj_map hb, KL.check w false hk, q1, hj, q3, KL.stays w hk, hsame, MapKept.run_setObj_map _ hb, Result.andThen, ChangeMaps.setBlock]
      rw [r1] at hrun
      have ew : ChangeMaps.setBlock w b (.map es1 clock1) = ChangeMaps.setBlock w b (.map es clock) := by
        injection hrun with _ e2
        exact e2.symm
      rw [ew]
      exact (h0.same ((setBlock_at hlt _).trans hb.symm)).look1 K ht he (hz _) hk
  · obtain ⟨es', clock', p1, p2⟩ := hst (ChangeMaps.setBlock w b (.map es1 clock1)) (.int .i64 c) (setBlock_at hlt _)
    rw [setBlock_two] at p1
    obtain ⟨w', q1, q2, q3⟩ := h0.put_runU K ht he hn hk hc
    rw [p2] at q1
    have ew' : w' = ChangeMaps.setBlock w b (.map es' clock') := by
      injection q1 with _ e2
      exact e2.symm
    rw [ew'] at q2 q3
    exact ⟨_, p1, q2, q3⟩
end Go.Proofs.YtebaopiedlioiaaGreatDoor
namespace Go.Proofs.YtebaopiedlioiaaGreatDoor
open Go.RowKit Go.Maps

theorem Tryz.laidOutT : laidOutB Tryz.prog = true := by kernel_rfl
theorem tKeyL : WideMaps.KeyLaw Tryz.prog 95 := (deep_law_gate Tryz.laidOutT (of_decide_eq_true (by kernel_rfl)) (of_decide_eq_true (by kernel_rfl)) (by kernel_rfl) (by kernel_rfl))
theorem tKey : Keyed Tryz.prog 95 := Keyed.of_law tKeyL
/-- A key as a value. -/
abbrev kvt (p : Nat) (m : List UInt8) : Value := .agg #[.int .i64 p, .string (tx m)]
theorem tlits_int (d : Nat) {n : Nat} (h : n < 9223372036854775808) : Tryz.prog.keyLits (d + 1) 3 [.int .i64 (n : Int)] = some [.int .i64 (n : Int)] := by
  have hw : (Lit.int .i64 (n : Int)).wf = true := WalkArith.wf_i64 (by omega)
  unfold Program.keyLits
  simp [Tryz.underlying3, hw]
theorem tlits_str (d : Nat) (s : ByteArray) (hs : s.size ≤ maxLen) : ∃ b, Tryz.prog.keyLits (d + 1) 9 [.string s] = some [b] := by
  unfold Program.keyLits
  simp [Tryz.underlying9, hs]
theorem Tryz.ttypes_pos : ∃ d, Tryz.prog.types.size = d + 1 := ⟨Tryz.prog.types.size - 1, by have : 0 < Tryz.prog.types.size := of_decide_eq_true (by kernel_rfl); omega⟩
theorem Tryz.tcells_int : Tryz.prog.cellsOf 3 = 1 := by kernel_rfl
theorem Tryz.tcells_str : Tryz.prog.cellsOf 9 = 1 := by kernel_rfl
theorem Tryz.tcells_key : Tryz.prog.cellsOf 95 = 2 := by kernel_rfl
theorem tcells_agg2 (a b : Value) : (Value.agg #[a, b]).cells.toList = [a, b] := rfl
theorem key_end {p : Nat} {m : List UInt8} (hp : p < 9223372036854775808) (hm : m.length ≤ 1048576) : ∃ kl, keyOf Tryz.prog 95 (kvt p m) = some kl := by
  have hf : (kvt p m).formed Tryz.prog 95 = true := by kernel_rfl
  have hk : Tryz.prog.keyType 95 = true := by kernel_rfl
  obtain ⟨d, hd⟩ := Tryz.ttypes_pos
  have h1 := tlits_int d hp
  obtain ⟨b, h2⟩ := tlits_str d (tx m) (by rw [tx_size]; unfold maxLen; omega)
  unfold keyOf
  simp only [Tryz.underlying95, hf, hk, Bool.and_self, if_true]
  unfold Program.keyLits
  simp [Tryz.underlying95, tcells_agg2, Tryz.tcells_key, Tryz.tcells_int, Tryz.tcells_str, hd, h1, h2]
theorem kvt_inj {p p' : Nat} {m m' : List UInt8} (h : kvt p m = kvt p' m') : p = p' ∧ m = m' := by
  simp only [Value.agg.injEq, Array.mk.injEq, List.cons.injEq, Value.int.injEq, Value.string.injEq, true_and, and_true] at h
  refine ⟨by omega, ?_⟩
  have := congrArg (fun b : ByteArray => b.data.toList) h.2
  simpa using this
/-- The keys that have come, each once. -/
def TakAt (w : World) (mb : Nat) (ks : List (Nat × List UInt8)) : Prop := ∃ f, MapOf Tryz.prog 95 3 w mb ks.length f ∧ ∀ p m, (((p, m) ∈ ks → f (kvt p m) = some 1) ∧ ((p, m) ∉ ks → f (kvt p m) = none))
theorem TakAt.same {w w' : World} {mb : Nat} {ks : List (Nat × List UInt8)} (h : TakAt w mb ks) (hb : w'.heap[mb]? = w.heap[mb]?) : TakAt w' mb ks := by
  obtain ⟨f, h1, h2⟩ := h
  exact ⟨f, h1.same hb, h2⟩
theorem TakAt.lt {w : World} {mb : Nat} {ks : List (Nat × List UInt8)} (h : TakAt w mb ks) : mb < w.heap.size := by
  obtain ⟨f, h1, h2⟩ := h
  exact h1.lt
theorem TakAt.new (w : World) : TakAt (w.alloc (.map #[] 0)) w.heap.size [] := ⟨fun _ => none, MapOf.new _ _ _ w, fun p m => ⟨(fun h => absurd h (by simp)), fun _ => rfl⟩⟩
theorem tzero_int (w : World) : (zeroValue 3).run Tryz.prog w = .ok (.int .i64 0) w := by kernel_rfl


set_option maxHeartbeats 1000000 in
theorem otake {w : World} {mb : Nat} {ks : List (Nat × List UInt8)} (hK : TakAt w mb ks) (p : Nat) (m : List UInt8) (hp : p ≤ 2147483647) (hm : m.length ≤ 1048576) (hks : ks.length ≤ 1048576) :
    Calls Tryz.prog 79 #[.map (some mb), .agg #[.int .i64 p, .string (tx m)]] w fun en w' => en = .returned (.bool (decide ((p, m) ∉ ks))) ∧ ((p, m) ∉ ks → TakAt w' mb (ks ++ [(p, m)])) ∧ w.grownBy w' (some mb) := by
  obtain ⟨f, h1, h2⟩ := hK
  obtain ⟨kl, hkl⟩ := key_end (p := p) (m := m) (by omega) hm
  have hlt := h1.lt
  obtain ⟨W, hW⟩ : ∃ W, W = (w.alloc (eob p m)).drew := ⟨_, rfl⟩
  have hWb : W.heap[mb]? = w.heap[mb]? := by
    rw [hW]
    show (w.alloc (eob p m)).heap[mb]? = _
    rw [heap_old _ _ hlt]
  have M : MapOf Tryz.prog 95 3 W mb ks.length f := h1.same hWb
  have hl0 := M.look1 tKey Tryz.underlying109 Tryz.underlying3 (tzero_int _) hkl
  obtain ⟨v0, st, w1, r1, g1, r2, r3⟩ := M.entry tKeyL Tryz.underlying109 Tryz.underlying3 (fun u => tzero_int u) (by unfold maxLen; omega) hkl
  have hgW : w.grownBy W (some mb) := by rw [hW]; exact ⟨rfl, rfl, rfl, by show w.heap.size ≤ (w.alloc _).heap.size; simp, fun i hi _ => by show (w.alloc (eob p m)).heap[i]? = _; rw [heap_old _ _ hi]⟩
  have hkb : W.heap[w.heap.size]? = some (eob p m) := by rw [hW]; exact new_0 _ _
  have hkb1 := block_grow hkb g1 (by omega)
  have hcell : ∀ u : World, u.heap[w.heap.size]? = some (eob p m) → u.cell? ⟨w.heap.size, 0, none⟩ = some (.int .i64 p) ∧ u.cell? ⟨w.heap.size, 1, none⟩ = some (.string (tx m)) := fun u hu => ⟨by rw [cell_at hu]; rfl, by rw [cell_at hu]; rfl⟩
  by_cases hin : (p, m) ∈ ks
  · have hf := (h2 p m).1 hin
    rw [hf] at hl0 r2
    simp only [Option.getD_some] at hl0 r2
    obtain ⟨w2, s1, s2, s3⟩ := r3 2 (by decide)
    obtain ⟨f', hf'⟩ := upd_exists f (kvt p m) (some 2)
    have M2 := s2 f' hf'
    have hl2 := M2.look1 tKey Tryz.underlying109 Tryz.underlying3 (tzero_int _) hkl
    rw [hf'.1] at hl2
    simp only [Option.getD_some] at hl2
    have hkb2 := block_grow hkb s3 (by omega)
    obtain ⟨a0, a1⟩ := hcell _ hkb
    obtain ⟨b0, b1⟩ := hcell _ hkb1
    obtain ⟨c0, c1⟩ := hcell _ hkb2
    have hd : decide ((p, m) ∉ ks) = false := by simp [hin]
    rw [hd]
    have HR : Hid (((p, m) ∉ ks → TakAt w2 mb (ks ++ [(p, m)])) ∧ w.grownBy w2 (some mb)) := ⟨fun q => absurd hin q, grown_two hgW s3⟩
    have s1' : (Instr.entryStore 109 (.map (some mb)) (.int .i64 st) (.int .i64 2)).run Tryz.prog w1 = .ok () w2 := s1
    clear h1 h2 hkl hWb M r3 g1 hgW hkb hkb1 hcell hin hf s2 s3 hf' M2 hkb2 hd hks hp hm
    subst hW
    go_enter Tryz.func79, Tryz.ntmps79
    go_wp2_with fail
    go_region
    go_wp2
    go_ret
    exact ⟨rfl, HR.out⟩
  · have hf := (h2 p m).2 hin
    rw [hf] at hl0 r2
    simp only [Option.getD_none] at hl0 r2
    obtain ⟨w2, s1, s2, s3⟩ := r3 1 (by decide)
    obtain ⟨f', hf'⟩ := upd_exists f (kvt p m) (some 1)
    have M2 := s2 f' hf'
    have hl2 := M2.look1 tKey Tryz.underlying109 Tryz.underlying3 (tzero_int _) hkl
    rw [hf'.1] at hl2
    simp only [Option.getD_some] at hl2
    have hkb2 := block_grow hkb s3 (by omega)
    obtain ⟨a0, a1⟩ := hcell _ hkb
    obtain ⟨b0, b1⟩ := hcell _ hkb1
    obtain ⟨c0, c1⟩ := hcell _ hkb2
    have hd : decide ((p, m) ∉ ks) = true := by simp [hin]
    rw [hd]
    have HR : Hid (((p, m) ∉ ks → TakAt w2 mb (ks ++ [(p, m)])) ∧ w.grownBy w2 (some mb)) := by
      refine ⟨fun _ => ⟨f', ?_, fun p0 m0 => ⟨fun q => ?_, fun q => ?_⟩⟩, grown_two hgW s3⟩
      · rw [hf] at M2
        simpa using M2
      · by_cases e : (p0, m0) = (p, m)
        · obtain ⟨rfl, rfl⟩ := Prod.mk.inj e
          exact hf'.1
        · rw [hf'.2 _ (fun h => e (by obtain ⟨a, b⟩ := kvt_inj h; rw [a, b]))]
          refine (h2 p0 m0).1 ?_
          rcases List.mem_append.1 q with q | q
          · exact q
          · exact absurd (List.mem_singleton.1 q) e
      · have hne : (p0, m0) ≠ (p, m) := fun e => q (List.mem_append.2 (Or.inr (by rw [e]; simp)))
        rw [hf'.2 _ (fun h => hne (by obtain ⟨a, b⟩ := kvt_inj h; rw [a, b]))]
        exact (h2 p0 m0).2 (fun h => q (List.mem_append.2 (Or.inl h)))
    have s1' : (Instr.entryStore 109 (.map (some mb)) (.int .i64 st) (.int .i64 1)).run Tryz.prog w1 = .ok () w2 := s1
    clear h1 h2 hkl hWb M r3 g1 hgW hkb hkb1 hcell hin hf s2 s3 hf' M2 hkb2 hd hks hp hm
    subst hW
    go_enter Tryz.func79, Tryz.ntmps79
    go_wp2_with fail
    go_region
    go_wp2
    go_ret
    exact ⟨rfl, HR.out⟩
end Go.Proofs.YtebaopiedlioiaaGreatDoor
