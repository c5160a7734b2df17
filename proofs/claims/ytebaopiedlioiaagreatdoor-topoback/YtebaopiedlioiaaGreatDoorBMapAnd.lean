/-
  The reader of topologies within a line of a link: two blocks change, the reader's and that of the ends that are taken.
  The reader of topologies: an end of a link.
  The ends of links that are taken: a map of numbers by device and port; ends.add.
  The numbers of devices by their names: a map.
  m[k]++ of a map told key by key: the entry first or the look-up first.
  A map of whole numbers in memory, told key by key.
-/
import Derived.WalkKit
import Derived.Maps.OwnSet
import Derived.WideKeyEntry
import Derived.Test.YtebaopiedlioiaaGreatDoorWRefSAnd
import Derived.DeepKeys5
import Derived.Test.YtebaopiedlioiaaGreatDoorJRdAnd
import Derived.Test.YtebaopiedlioiaaGreatDoorJInsAnd
namespace Go.Proofs.YtebaopiedlioiaaGreatDoor
open Go.RowKit Go.Maps

/-- Block b is a map of sz entries: at a key that may be one, f says what it holds. -/
def MapOf (P : Program) (k e : TypeId) (w : World) (b sz : Nat) (f : Value → Option Int) : Prop :=
  ∃ D : DataW Unit, w.ownsMap P k (plainElem P e) b sz D ∧ Maps.size D = sz ∧
    ∀ key kl, keyOf P k key = some kl → Maps.has D kl = (f key).isSome ∧ ∀ c, f key = some c → D.atKey kl (.lit (.int .i64 0)) = .lit (.int .i64 c)

theorem owns_tight {P : Program} {k e : TypeId} {w : World} {b n : Nat} {D : DataW Unit} (h : w.ownsMap P k (plainElem P e) b n D) : w.ownsMap P k (plainElem P e) b (Maps.size D) D := by
  obtain ⟨es, clock, hb, F, _, rfl⟩ := h
  exact ⟨es, clock, hb, F, by simp [Maps.size, length_sorted], rfl⟩

theorem MapOf.lt {P : Program} {k e : TypeId} {w : World} {b sz : Nat} {f : Value → Option Int} (h : MapOf P k e w b sz f) : b < w.heap.size := by
  obtain ⟨D, h, _⟩ := h
  exact h.lt

theorem MapOf.congr {P : Program} {k e : TypeId} {w : World} {b sz : Nat} {f g : Value → Option Int} (h : MapOf P k e w b sz f) (hfg : ∀ key kl, keyOf P k key = some kl → f key = g key) : MapOf P k e w b sz g := by
  obtain ⟨D, h1, h2, h3⟩ := h
  refine ⟨D, h1, h2, fun key kl hk => ?_⟩
  rw [← hfg key kl hk]
  exact h3 key kl hk

/-- A block that is as it was. -/
theorem MapOf.same {P : Program} {k e : TypeId} {w w' : World} {b sz : Nat} {f : Value → Option Int} (h : MapOf P k e w b sz f) (hb : w'.heap[b]? = w.heap[b]?) : MapOf P k e w' b sz f := by
  obtain ⟨D, ⟨es, clock, h1, F, hs, hD⟩, h2, h3⟩ := h
  exact ⟨D, ⟨es, clock, hb.trans h1, F, hs, hD⟩, h2, h3⟩

theorem MapOf.new (P : Program) (k e : TypeId) (w : World) : MapOf P k e (w.alloc (.map #[] 0)) w.heap.size 0 (fun _ => none) :=
  ⟨.map [], World.ownsMap_made w P k _, rfl, fun key kl _ => ⟨by simp [Maps.has], fun c h => by cases h⟩⟩

theorem MapOf.look {P : Program} {k e t : TypeId} {w : World} {b sz : Nat} {f : Value → Option Int} (h : MapOf P k e w b sz f) (K : Keyed P k) (ht : P.underlying t = some (.map k e)) (he : P.underlying e = some (.int .i64))
    (hz : (zeroValue e).run P w = .ok (.int .i64 0) w) {key : Value} {kl : Lit} (hk : keyOf P k key = some kl) :
    (Instr.lookup t (.map (some b)) key true).run P w = .ok (.tuple #[.int .i64 ((f key).getD 0), .bool (f key).isSome]) w := by
  obtain ⟨D, h1, h2, h3⟩ := h
  obtain ⟨v, ps, hrun, hv⟩ := h1.look_ok K ht hz (zd := .lit (.int .i64 0)) (zp := []) (plainElem_int he (by decide)) hk
  obtain ⟨c, rfl, hc, hwc⟩ := plainElem_int_inv he hv
  obtain ⟨h4, h5⟩ := h3 key kl hk
  rw [hrun, h4]
  cases hf : f key with
  | none =>
    have : D.atKey kl (.lit (.int .i64 0)) = .lit (.int .i64 0) := Maps.atKey_of_not_has (by rw [h4, hf]; rfl) _
    have hc' := congrArg Prod.fst hc
    simp only [this] at hc'
    cases hc'
    rfl
  | some c' =>
    have := h5 c' hf
    have hc' := congrArg Prod.fst hc
    simp only [this] at hc'
    cases hc'
    rfl

theorem MapOf.look1 {P : Program} {k e t : TypeId} {w : World} {b sz : Nat} {f : Value → Option Int} (h : MapOf P k e w b sz f) (K : Keyed P k) (ht : P.underlying t = some (.map k e)) (he : P.underlying e = some (.int .i64))
    (hz : (zeroValue e).run P w = .ok (.int .i64 0) w) {key : Value} {kl : Lit} (hk : keyOf P k key = some kl) :
    (Instr.lookup t (.map (some b)) key false).run P w = .ok (.int .i64 ((f key).getD 0)) w := by
  obtain ⟨D, h1, h2, h3⟩ := h
  obtain ⟨c, hrun, hc, hwc⟩ := h1.lookup_int K ht he hz hk
  obtain ⟨h4, h5⟩ := h3 key kl hk
  rw [hrun]
  cases hf : f key with
  | none =>
    have : D.atKey kl (.lit (.int .i64 0)) = .lit (.int .i64 0) := Maps.atKey_of_not_has (by rw [h4, hf]; rfl) _
    rw [this] at hc
    cases hc
    rfl
  | some c' =>
    rw [h5 c' hf] at hc
    cases hc
    rfl

theorem MapOf.len {P : Program} {k e t : TypeId} {w : World} {b sz : Nat} {f : Value → Option Int} (h : MapOf P k e w b sz f) (ht : P.underlying t = some (.map k e)) (ty : TypeId) :
    (Builtin.len_ #[t] ty #[.map (some b)]).run P w = .ok (.int .i64 sz) w := by
  obtain ⟨D, h1, h2, h3⟩ := h
  rw [h1.len ht ty, h2]

/-- f' is f but for one key. -/
def Upd (f : Value → Option Int) (key : Value) (c : Option Int) (f' : Value → Option Int) : Prop := f' key = c ∧ ∀ x, x ≠ key → f' x = f x
theorem upd_exists (f : Value → Option Int) (key : Value) (c : Option Int) : ∃ f', Upd f key c f' := by
  classical
  exact ⟨fun x => if x = key then c else f x, if_pos rfl, fun x hx => if_neg hx⟩

/-- Behind a store. -/
theorem mapOf_put {P : Program} {k e : TypeId} {w w' : World} {b sz : Nat} {f : Value → Option Int} (K : Keyed P k) {D : DataW Unit} (h1 : w.ownsMap P k (plainElem P e) b sz D) (h2 : Maps.size D = sz)
    (h3 : ∀ key kl, keyOf P k key = some kl → Maps.has D kl = (f key).isSome ∧ ∀ c, f key = some c → D.atKey kl (.lit (.int .i64 0)) = .lit (.int .i64 c)) {key : Value} {kl : Lit} (hk : keyOf P k key = some kl) {c : Int}
    (h4 : w'.ownsMap P k (plainElem P e) b (sz + 1) (D.put kl (.lit (.int .i64 c)))) : ∀ f', Upd f key (some c) f' → MapOf P k e w' b (if (f key).isSome then sz else sz + 1) f' := by
  intro f' hf'
  have hs : Maps.size (D.put kl (.lit (.int .i64 c))) = if (f key).isSome then sz else sz + 1 := by
    rw [Maps.size_put (h1.tidy K), (h3 key kl hk).1, h2]
  refine ⟨D.put kl (.lit (.int .i64 c)), ?_, hs, ?_⟩
  · have := owns_tight h4
    rw [hs] at this
    exact this
  · intro key' kl' hk'
    by_cases e1 : key' = key
    · subst e1
      have : kl' = kl := by rw [hk] at hk'; cases hk'; rfl
      subst this
      rw [hf'.1]
      refine ⟨by rw [Maps.has_put_same h1.isMap (K.key hk)]; rfl, ?_⟩
      intro c' hc'
      cases hc'
      exact Maps.atKey_put_same h1.isMap (K.key hk) _ _
    · have hne : kl' ≠ kl := fun e2 => e1 (K.inj hk' (by rw [e2]; exact hk))
      rw [hf'.2 _ e1, Maps.has_put_other hne, Maps.atKey_put_other hne]
      exact h3 key' kl' hk'

theorem wpList_store_of {P : Program} (w : World) {ops : Array Oper} {rest : List Oper} {o : Oper} {a : Act} {Q : Exit → Act → World → Prop}
    (hg : o.guard = none) (m x v : Operand) (t : TypeId) (hop : o.op = Op.mapUpdate t m x v)
    (k e : TypeId) (K : Keyed P k) (ht : P.underlying t = some (.map k e)) (he : P.underlying e = some (.int .i64)) (b sz : Nat) (f : Value → Option Int)
    (hm : a.eval m = .map (some b)) (hown : MapOf P k e w b sz f) (hn : sz < maxLen) (key : Value) (c : Int) (kl : Lit) (hx : a.eval x = key) (hv : a.eval v = .int .i64 c) (hkey : keyOf P k key = some kl) (hc : (Lit.int .i64 c).wf = true)
    (hK : ∀ w', (∀ f', Upd f key (some c) f' → MapOf P k e w' b (if (f key).isSome then sz else sz + 1) f') → w.grownBy w' (some b) → wpList P ops Q rest (a.put o.dst undef) w') :
    wpList P ops Q (o :: rest) a w := by
  obtain ⟨D, h1, h2, h3⟩ := hown
  refine wpList_mapUpdate_own w hg m x v t hop k e K ht (plainElem P e) b sz D hm h1 hn key (.int .i64 c) kl hx hv hkey (.lit (.int .i64 c)) [] (plainElem_int he hc) ?_
  intro w' h4 h5
  exact hK w' (mapOf_put K h1 h2 h3 hkey h4) h5

theorem wpList_delete_of {P : Program} (w : World) {ops : Array Oper} {rest : List Oper} {o : Oper} {a : Act} {Q : Exit → Act → World → Prop}
    (hg : o.guard = none) (m x : Operand) (t k : TypeId) (hop : o.op = Op.call { callee := Callee.builtin Builtin.delete, args := #[m, x], argTypes := #[t, k] })
    (e : TypeId) (K : Keyed P k) (ht : P.underlying t = some (.map k e)) (b sz : Nat) (f : Value → Option Int)
    (hm : a.eval m = .map (some b)) (hown : MapOf P k e w b sz f) (key : Value) (kl : Lit) (hx : a.eval x = key) (hkey : keyOf P k key = some kl)
    (hK : ∀ w', (∀ f', Upd f key none f' → MapOf P k e w' b (if (f key).isSome then sz - 1 else sz) f') → w.grownBy w' (some b) → wpList P ops Q rest (a.put o.dst (.tuple #[])) w') :
    wpList P ops Q (o :: rest) a w := by
  obtain ⟨D, h1, h2, h3⟩ := hown
  refine wpList_delete_own w hg m x t k hop e K ht (plainElem P e) b sz D hm h1 key kl hx hkey ?_
  intro w' h4 h5
  refine hK w' (fun f' hf' => ?_) h5.grown
  have hs : Maps.size (D.del kl) = if (f key).isSome then sz - 1 else sz := by
    have := Maps.size_del (k := kl) (h1.tidy K)
    rw [(h3 key kl hkey).1, h2] at this
    split at this
    · rename_i hh; rw [if_pos hh]; omega
    · rename_i hh; rw [if_neg hh]; omega
  refine ⟨D.del kl, ?_, hs, ?_⟩
  · have := owns_tight h4
    rw [hs] at this
    exact this
  · intro key' kl' hk'
    by_cases e1 : key' = key
    · subst e1
      have : kl' = kl := by rw [hkey] at hk'; cases hk'; rfl
      subst this
      rw [hf'.1]
      exact ⟨by rw [Maps.has_del_same]; rfl, fun c' hc' => by cases hc'⟩
    · have hne : kl' ≠ kl := fun e2 => e1 (K.inj hk' (by rw [e2]; exact hkey))
      rw [hf'.2 _ e1, Maps.has_del_other hne, Maps.atKey_del_other hne]
      exact h3 key' kl' hk'
end Go.Proofs.YtebaopiedlioiaaGreatDoor
namespace Go.Proofs.YtebaopiedlioiaaGreatDoor
open Go.RowKit Go.Maps

theorem MapOf.put_runU {P : Program} {k e t : TypeId} {w : World} {b sz : Nat} {f : Value → Option Int} (h : MapOf P k e w b sz f) (K : Keyed P k) (ht : P.underlying t = some (.map k e)) (he : P.underlying e = some (.int .i64)) (hn : sz < maxLen)
    {key : Value} {kl : Lit} (hk : keyOf P k key = some kl) {c : Int} (hc : (Lit.int .i64 c).wf = true) :
    ∃ w', (Instr.mapUpdate t (.map (some b)) key (.int .i64 c)).run P w = .ok () w' ∧ (∀ f', Upd f key (some c) f' → MapOf P k e w' b (if (f key).isSome then sz else sz + 1) f') ∧ w.grownBy w' (some b) := by
  obtain ⟨D, h1, h2, h3⟩ := h
  obtain ⟨w', hrun, r1, r2⟩ := h1.update K ht hn hk (val := .int .i64 c) (d := .lit (.int .i64 c)) (ps := []) (plainElem_int he hc)
  exact ⟨w', hrun, mapOf_put K h1 h2 h3 hk r1, r2⟩
theorem setBlock_at {w : World} {b : Nat} (hb : b < w.heap.size) (o : Obj) : (ChangeMaps.setBlock w b o).heap[b]? = some o := by
  unfold ChangeMaps.setBlock
  simp [hb]
theorem setBlock_grown (w : World) (b : Nat) (o : Obj) : w.grownBy (ChangeMaps.setBlock w b o) (some b) := by
  refine ⟨rfl, rfl, rfl, by simp [ChangeMaps.setBlock], fun i _ hne => ?_⟩
  show (w.heap.setIfInBounds b o)[i]? = _
  rw [Array.getElem?_setIfInBounds_ne (fun q => hne (by rw [q]))]
theorem setBlock_two (w : World) (b : Nat) (o o' : Obj) : ChangeMaps.setBlock (ChangeMaps.setBlock w b o) b o' = ChangeMaps.setBlock w b o' := by
  unfold ChangeMaps.setBlock
  simp [Array.setIfInBounds_setIfInBounds]

theorem MapOf.entry {P : Program} {k e t : TypeId} {w : World} {b sz : Nat} {f : Value → Option Int} (h : MapOf P k e w b sz f) (KL : WideMaps.KeyLaw P k) (ht : P.underlying t = some (.map k e)) (he : P.underlying e = some (.int .i64)) (hz : ∀ u : World, (zeroValue e).run P u = .ok (.int .i64 0) u) (hn : sz < maxLen)
    {key : Value} {kl : Lit} (hk : keyOf P k key = some kl) :
    ∃ v0 st w1, (Instr.mapEntry t (.map (some b)) key).run P w = .ok (.tuple #[v0, goInt st]) w1 ∧ w.grownBy w1 (some b) ∧
      (Instr.lookup t (.map (some b)) key false).run P w1 = .ok (.int .i64 ((f key).getD 0)) w1 ∧
      ∀ c : Int, (Lit.int .i64 c).wf = true → ∃ w2, (Instr.entryStore t (.map (some b)) (goInt st) (.int .i64 c)).run P w1 = .ok () w2 ∧ (∀ f', Upd f key (some c) f' → MapOf P k e w2 b (if (f key).isSome then sz else sz + 1) f') ∧ w.grownBy w2 (some b) := by
  have K := Keyed.of_law KL
  have h0 := h
  obtain ⟨D, ⟨es, clock, hb, F, hs, hD⟩, h2, h3⟩ := h
  obtain ⟨v0, st, es1, clock1, hrun, hor, hst⟩ := WideElems.entry_then_store KL ht hz hb F hk
  have hlt : b < w.heap.size := h0.lt
  refine ⟨v0, st, ChangeMaps.setBlock w b (.map es1 clock1), hrun, setBlock_grown _ _ _, ?_, fun c hc => ?_⟩
  · rcases KL.find w hk es.toList F.keys with ⟨q1, q2⟩ | ⟨j, e0, q1, q2, q3⟩
    · have r1 : (Instr.mapEntry t (.map (some b)) key).run P w = .ok (.tuple #[.int .i64 0, goInt clock]) (ChangeMaps.setBlock w b (.map (es.push ⟨key, .int .i64 0, clock⟩) (clock + 1))) := by
        simp [Instr.mapEntry, run_underlying ht, MapKept.run_getObj_map hb, KL.check w false hk, q1, hz, MapKept.run_setObj_map _ hb, Result.andThen, ChangeMaps.setBlock]
      have r2 : (Instr.mapUpdate t (.map (some b)) key (.int .i64 0)).run P w = .ok () (ChangeMaps.setBlock w b (.map (es.push ⟨key, .int .i64 0, clock⟩) (clock + 1))) := by
        simp [Instr.mapUpdate, run_underlying ht, MapKept.run_getObj_map hb, KL.check w false hk, q1, MapKept.run_setObj_map _ hb, Result.andThen, ChangeMaps.setBlock]
      rw [r1] at hrun
      have ew : ChangeMaps.setBlock w b (.map es1 clock1) = ChangeMaps.setBlock w b (.map (es.push ⟨key, .int .i64 0, clock⟩) (clock + 1)) := by
        injection hrun with _ e2
        exact e2.symm
      obtain ⟨w', p1, p2, _⟩ := h0.put_runU K ht he hn hk (c := 0) (by decide)
      rw [r2] at p1
      have ew' : w' = ChangeMaps.setBlock w b (.map es1 clock1) := by
        injection p1 with _ e2
        rw [← e2, ew]
      obtain ⟨f', hf'⟩ := upd_exists f key (some 0)
      have M1 := p2 f' hf'
      rw [ew'] at M1
      have L1 := M1.look1 K ht he (hz _) hk
      rw [hf'.1] at L1
      have L0 := h0.look1 K ht he (hz _) hk
      have L00 : (Instr.lookup t (.map (some b)) key false).run P w = .ok (.int .i64 0) w := by
        simp [Instr.lookup, run_underlying ht, MapKept.run_getObj_map hb, KL.check w es.isEmpty hk, q1, hz, Result.andThen]
      rw [L00] at L0
      have e0 : (f key).getD 0 = 0 := by
        injection L0 with e1 _
        injection e1 with _ e3
        exact e3.symm
      rw [e0]
      exact L1
    · have hj : es[j]? = some e0 := by simpa using q2
      have hsame : es.modify j (fun e => { e with key := key }) = es := by
        apply Array.ext'
        rw [Array.toList_modify, ChangeMaps.modify_eq_set _ _ _ _ q2]
        have : ({ e0 with key := key } : MapEntry) = e0 := by rw [← q3]
        rw [this]
        exact WideElems.set_self _ _ _ q2
      have r1 : (Instr.mapEntry t (.map (some b)) key).run P w = .ok (.tuple #[e0.val, goInt e0.born]) (ChangeMaps.setBlock w b (.map es clock)) := by
        simp [Instr.mapEntry, run_underlying ht, MapKept.run_getObj_map hb, KL.check w false hk, q1, hj, q3, KL.stays w hk, hsame, MapKept.run_setObj_map _ hb, Result.andThen, ChangeMaps.setBlock]
      rw [r1] at hrun
      have ew : ChangeMaps.setBlock w b (.map es1 clock1) = ChangeMaps.setBlock w b (.map es clock) := by
        injection hrun with _ e2
        exact e2.symm
      rw [ew]
      exact (h0.same ((setBlock_at hlt _).trans hb.symm)).look1 K ht he (hz _) hk
  · obtain ⟨es', clock', p1, p2⟩ := hst (ChangeMaps.setBlock w b (.map es1 clock1)) (.int .i64 c) (setBlock_at hlt _)
    rw [setBlock_two] at p1
    obtain ⟨w', q1, q2, q3⟩ := h0.put_runU K ht he hn hk hc
    rw [p2] at q1
    have ew' : w' = ChangeMaps.setBlock w b (.map es' clock') := by
      injection q1 with _ e2
      exact e2.symm
    rw [ew'] at q2 q3
    exact ⟨_, p1, q2, q3⟩
end Go.Proofs.YtebaopiedlioiaaGreatDoor
namespace Go.Proofs.YtebaopiedlioiaaGreatDoor
open Go.RowKit Go.Maps

theorem jKey : Keyed Tryz.prog 9 := string_keyed Tryz.underlying9
theorem jzero_int (w : World) : (zeroValue 3).run Tryz.prog w = .ok (.int .i64 0) w := by kernel_rfl
theorem jkey_str {s : List UInt8} (hs : s.length ≤ 1048576) : ∃ kl, keyOf Tryz.prog 9 (.string (tx s)) = some kl := by
  have hz : (tx s).size ≤ maxLen := by rw [tx_size]; unfold maxLen; omega
  simp [keyOf, mapKey, Tryz.underlying9, hz]
/-- The number of a name: its place, from 1 on. -/
def numO (ns : List (List UInt8)) (s : List UInt8) : Option Int := if s ∈ ns then some ((ns.idxOf s : Int) + 1) else none
/-- The map of names. -/
def NumAt (w : World) (nb : Nat) (ns : List (List UInt8)) : Prop := ∃ f, MapOf Tryz.prog 9 3 w nb ns.length f ∧ ∀ s, f (.string (tx s)) = numO ns s
theorem NumAt.same {w w' : World} {nb : Nat} {ns : List (List UInt8)} (h : NumAt w nb ns) (hb : w'.heap[nb]? = w.heap[nb]?) : NumAt w' nb ns := by
  obtain ⟨f, h1, h2⟩ := h
  exact ⟨f, h1.same hb, h2⟩
theorem NumAt.lt {w : World} {nb : Nat} {ns : List (List UInt8)} (h : NumAt w nb ns) : nb < w.heap.size := by
  obtain ⟨f, h1, h2⟩ := h
  exact h1.lt
theorem NumAt.new (w : World) : NumAt (w.alloc (.map #[] 0)) w.heap.size [] := ⟨fun _ => none, MapOf.new _ _ _ w, fun s => by simp [numO]⟩
theorem NumAt.look {w : World} {nb : Nat} {ns : List (List UInt8)} (h : NumAt w nb ns) {s : List UInt8} (hs : s.length ≤ 1048576) : (Instr.lookup 107 (.map (some nb)) (.string (tx s)) false).run Tryz.prog w = .ok (.int .i64 ((numO ns s).getD 0)) w := by
  obtain ⟨f, h1, h2⟩ := h
  obtain ⟨kl, hkl⟩ := jkey_str hs
  have := h1.look1 jKey Tryz.underlying107 Tryz.underlying3 (jzero_int _) hkl
  rw [h2] at this
  exact this
theorem tx_injJ {a b : List UInt8} (h : Value.string (tx a) = .string (tx b)) : a = b := by
  injection h with h
  have := congrArg (fun b : ByteArray => b.data.toList) h
  simpa using this
theorem numO_snoc {ns : List (List UInt8)} {s : List UInt8} (hs : s ∉ ns) (t : List UInt8) : numO (ns ++ [s]) t = if t = s then some ((ns.length : Int) + 1) else numO ns t := by
  by_cases h : t = s
  · subst h
    rw [if_pos rfl]
    unfold numO
    rw [if_pos (by simp), List.idxOf_append, if_neg hs]
    simp
  · rw [if_neg h]
    unfold numO
    by_cases hm : t ∈ ns
    · rw [if_pos (by simp [hm]), if_pos hm, List.idxOf_append, if_pos hm]
    · rw [if_neg (by simp [hm, h]), if_neg hm]
theorem NumAt.put {w : World} {nb : Nat} {ns : List (List UInt8)} (h : NumAt w nb ns) {s : List UInt8} (hs : s.length ≤ 1048576) (hn : s ∉ ns) (hl : ns.length ≤ 1000) : ∃ w', (Instr.mapUpdate 107 (.map (some nb)) (.string (tx s)) (.int .i64 ((ns.length : Int) + 1))).run Tryz.prog w = .ok () w' ∧ NumAt w' nb (ns ++ [s]) ∧ w.grownBy w' (some nb) := by
  obtain ⟨f, h1, h2⟩ := h
  obtain ⟨kl, hkl⟩ := jkey_str hs
  obtain ⟨w', r1, r2, r3⟩ := h1.put_runU jKey Tryz.underlying107 Tryz.underlying3 (by unfold maxLen; omega) hkl (c := (ns.length : Int) + 1) (WalkArith.wf_i64 (by omega))
  refine ⟨w', r1, ?_, r3⟩
  obtain ⟨f', hf'⟩ := upd_exists f (.string (tx s)) (some ((ns.length : Int) + 1))
  have h3 := r2 f' hf'
  have h4 : f (.string (tx s)) = none := by rw [h2]; unfold numO; rw [if_neg hn]
  rw [h4] at h3
  refine ⟨f', by rw [List.length_append, List.length_singleton]; exact h3, fun t => ?_⟩
  rw [numO_snoc hn]
  by_cases ht : t = s
  · rw [if_pos ht, ht]; exact hf'.1
  · rw [if_neg ht, hf'.2 _ (fun q => ht (tx_injJ q)), h2]
end Go.Proofs.YtebaopiedlioiaaGreatDoor
namespace Go.Proofs.YtebaopiedlioiaaGreatDoor
open Go.RowKit Go.Maps

theorem Tryz.laidOutT : laidOutB Tryz.prog = true := by kernel_rfl
theorem tKeyL : WideMaps.KeyLaw Tryz.prog 95 := (deep_law_gate Tryz.laidOutT (of_decide_eq_true (by kernel_rfl)) (of_decide_eq_true (by kernel_rfl)) (by kernel_rfl) (by kernel_rfl))
theorem tKey : Keyed Tryz.prog 95 := Keyed.of_law tKeyL
/-- A key as a value. -/
abbrev kvt (p : Nat) (m : List UInt8) : Value := .agg #[.int .i64 p, .string (tx m)]
theorem tlits_int (d : Nat) {n : Nat} (h : n < 9223372036854775808) : Tryz.prog.keyLits (d + 1) 3 [.int .i64 (n : Int)] = some [.int .i64 (n : Int)] := by
  have hw : (Lit.int .i64 (n : Int)).wf = true := WalkArith.wf_i64 (by omega)
  unfold Program.keyLits
  simp [Tryz.underlying3, hw]
theorem tlits_str (d : Nat) (s : ByteArray) (hs : s.size ≤ maxLen) : ∃ b, Tryz.prog.keyLits (d + 1) 9 [.string s] = some [b] := by
  unfold Program.keyLits
  simp [Tryz.underlying9, hs]
theorem Tryz.ttypes_pos : ∃ d, Tryz.prog.types.size = d + 1 := ⟨Tryz.prog.types.size - 1, by have : 0 < Tryz.prog.types.size := of_decide_eq_true (by kernel_rfl); omega⟩
theorem Tryz.tcells_int : Tryz.prog.cellsOf 3 = 1 := by kernel_rfl
theorem Tryz.tcells_str : Tryz.prog.cellsOf 9 = 1 := by kernel_rfl
theorem Tryz.tcells_key : Tryz.prog.cellsOf 95 = 2 := by kernel_rfl
theorem tcells_agg2 (a b : Value) : (Value.agg #[a, b]).cells.toList = [a, b] := rfl
theorem key_end {p : Nat} {m : List UInt8} (hp : p < 9223372036854775808) (hm : m.length ≤ 1048576) : ∃ kl, keyOf Tryz.prog 95 (kvt p m) = some kl := by
  have hf : (kvt p m).formed Tryz.prog 95 = true := by kernel_rfl
  have hk : Tryz.prog.keyType 95 = true := by kernel_rfl
  obtain ⟨d, hd⟩ := Tryz.ttypes_pos
  have h1 := tlits_int d hp
  obtain ⟨b, h2⟩ := tlits_str d (tx m) (by rw [tx_size]; unfold maxLen; omega)
  unfold keyOf
  simp only [Tryz.underlying95, hf, hk, Bool.and_self, if_true]
  unfold Program.keyLits
  simp [Tryz.underlying95, tcells_agg2, Tryz.tcells_key, Tryz.tcells_int, Tryz.tcells_str, hd, h1, h2]
theorem kvt_inj {p p' : Nat} {m m' : List UInt8} (h : kvt p m = kvt p' m') : p = p' ∧ m = m' := by
  simp only [Value.agg.injEq, Array.mk.injEq, List.cons.injEq, Value.int.injEq, Value.string.injEq, true_and, and_true] at h
  refine ⟨by omega, ?_⟩
  have := congrArg (fun b : ByteArray => b.data.toList) h.2
  simpa using this
/-- The keys that have come, each once. -/
def TakAt (w : World) (mb : Nat) (ks : List (Nat × List UInt8)) : Prop := ∃ f, MapOf Tryz.prog 95 3 w mb ks.length f ∧ ∀ p m, (((p, m) ∈ ks → f (kvt p m) = some 1) ∧ ((p, m) ∉ ks → f (kvt p m) = none))
theorem TakAt.same {w w' : World} {mb : Nat} {ks : List (Nat × List UInt8)} (h : TakAt w mb ks) (hb : w'.heap[mb]? = w.heap[mb]?) : TakAt w' mb ks := by
  obtain ⟨f, h1, h2⟩ := h
  exact ⟨f, h1.same hb, h2⟩
theorem TakAt.lt {w : World} {mb : Nat} {ks : List (Nat × List UInt8)} (h : TakAt w mb ks) : mb < w.heap.size := by
  obtain ⟨f, h1, h2⟩ := h
  exact h1.lt
theorem TakAt.new (w : World) : TakAt (w.alloc (.map #[] 0)) w.heap.size [] := ⟨fun _ => none, MapOf.new _ _ _ w, fun p m => ⟨(fun h => absurd h (by simp)), fun _ => rfl⟩⟩
theorem tzero_int (w : World) : (zeroValue 3).run Tryz.prog w = .ok (.int .i64 0) w := by kernel_rfl


set_option maxHeartbeats 1000000 in
theorem otake {w : World} {mb : Nat} {ks : List (Nat × List UInt8)} (hK : TakAt w mb ks) (p : Nat) (m : List UInt8) (hp : p ≤ 2147483647) (hm : m.length ≤ 1048576) (hks : ks.length ≤ 1048576) :
    Calls Tryz.prog 79 #[.map (some mb), .agg #[.int .i64 p, .string (tx m)]] w fun en w' => en = .returned (.bool (decide ((p, m) ∉ ks))) ∧ ((p, m) ∉ ks → TakAt w' mb (ks ++ [(p, m)])) ∧ w.grownBy w' (some mb) := by
  obtain ⟨f, h1, h2⟩ := hK
  obtain ⟨kl, hkl⟩ := key_end (p := p) (m := m) (by omega) hm
  have hlt := h1.lt
  obtain ⟨W, hW⟩ : ∃ W, W = (w.alloc (eob p m)).drew := ⟨_, rfl⟩
  have hWb : W.heap[mb]? = w.heap[mb]? := by
    rw [hW]
    show (w.alloc (eob p m)).heap[mb]? = _
    rw [heap_old _ _ hlt]
  have M : MapOf Tryz.prog 95 3 W mb ks.length f := h1.same hWb
  have hl0 := M.look1 tKey Tryz.underlying109 Tryz.underlying3 (tzero_int _) hkl
  obtain ⟨v0, st, w1, r1, g1, r2, r3⟩ := M.entry tKeyL Tryz.underlying109 Tryz.underlying3 (fun u => tzero_int u) (by unfold maxLen; omega) hkl
  have hgW : w.grownBy W (some mb) := by rw [hW]; exact ⟨rfl, rfl, rfl, by show w.heap.size ≤ (w.alloc _).heap.size; simp, fun i hi _ => by show (w.alloc (eob p m)).heap[i]? = _; rw [heap_old _ _ hi]⟩
  have hkb : W.heap[w.heap.size]? = some (eob p m) := by rw [hW]; exact new_0 _ _
  have hkb1 := block_grow hkb g1 (by omega)
  have hcell : ∀ u : World, u.heap[w.heap.size]? = some (eob p m) → u.cell? ⟨w.heap.size, 0, none⟩ = some (.int .i64 p) ∧ u.cell? ⟨w.heap.size, 1, none⟩ = some (.string (tx m)) := fun u hu => ⟨by rw [cell_at hu]; rfl, by rw [cell_at hu]; rfl⟩
  by_cases hin : (p, m) ∈ ks
  · have hf := (h2 p m).1 hin
    rw [hf] at hl0 r2
    simp only [Option.getD_some] at hl0 r2
    obtain ⟨w2, s1, s2, s3⟩ := r3 2 (by decide)
    obtain ⟨f', hf'⟩ := upd_exists f (kvt p m) (some 2)
    have M2 := s2 f' hf'
    have hl2 := M2.look1 tKey Tryz.underlying109 Tryz.underlying3 (tzero_int _) hkl
    rw [hf'.1] at hl2
    simp only [Option.getD_some] at hl2
    have hkb2 := block_grow hkb s3 (by omega)
    obtain ⟨a0, a1⟩ := hcell _ hkb
    obtain ⟨b0, b1⟩ := hcell _ hkb1
    obtain ⟨c0, c1⟩ := hcell _ hkb2
    have hd : decide ((p, m) ∉ ks) = false := by simp [hin]
    rw [hd]
    have HR : Hid (((p, m) ∉ ks → TakAt w2 mb (ks ++ [(p, m)])) ∧ w.grownBy w2 (some mb)) := ⟨fun q => absurd hin q, grown_two hgW s3⟩
    have s1' : (Instr.entryStore 109 (.map (some mb)) (.int .i64 st) (.int .i64 2)).run Tryz.prog w1 = .ok () w2 := s1
    clear h1 h2 hkl hWb M r3 g1 hgW hkb hkb1 hcell hin hf s2 s3 hf' M2 hkb2 hd hks hp hm
    subst hW
    go_enter Tryz.func79, Tryz.ntmps79
    go_wp2_with fail
    go_region
    go_wp2
    go_ret
    exact ⟨rfl, HR.out⟩
  · have hf := (h2 p m).2 hin
    rw [hf] at hl0 r2
    simp only [Option.getD_none] at hl0 r2
    obtain ⟨w2, s1, s2, s3⟩ := r3 1 (by decide)
    obtain ⟨f', hf'⟩ := upd_exists f (kvt p m) (some 1)
    have M2 := s2 f' hf'
    have hl2 := M2.look1 tKey Tryz.underlying109 Tryz.underlying3 (tzero_int _) hkl
    rw [hf'.1] at hl2
    simp only [Option.getD_some] at hl2
    have hkb2 := block_grow hkb s3 (by omega)
    obtain ⟨a0, a1⟩ := hcell _ hkb
    obtain ⟨b0, b1⟩ := hcell _ hkb1
    obtain ⟨c0, c1⟩ := hcell _ hkb2
    have hd : decide ((p, m) ∉ ks) = true := by simp [hin]
    rw [hd]
    have HR : Hid (((p, m) ∉ ks → TakAt w2 mb (ks ++ [(p, m)])) ∧ w.grownBy w2 (some mb)) := by
      refine ⟨fun _ => ⟨f', ?_, fun p0 m0 => ⟨fun q => ?_, fun q => ?_⟩⟩, grown_two hgW s3⟩
      · rw [hf] at M2
        simpa using M2
      · by_cases e : (p0, m0) = (p, m)
        · obtain ⟨rfl, rfl⟩ := Prod.mk.inj e
          exact hf'.1
        · rw [hf'.2 _ (fun h => e (by obtain ⟨a, b⟩ := kvt_inj h; rw [a, b]))]
          refine (h2 p0 m0).1 ?_
          rcases List.mem_append.1 q with q | q
          · exact q
          · exact absurd (List.mem_singleton.1 q) e
      · have hne : (p0, m0) ≠ (p, m) := fun e => q (List.mem_append.2 (Or.inr (by rw [e]; simp)))
        rw [hf'.2 _ (fun h => hne (by obtain ⟨a, b⟩ := kvt_inj h; rw [a, b]))]
        exact (h2 p0 m0).2 (fun h => q (List.mem_append.2 (Or.inl h)))
    have s1' : (Instr.entryStore 109 (.map (some mb)) (.int .i64 st) (.int .i64 1)).run Tryz.prog w1 = .ok () w2 := s1
    clear h1 h2 hkl hWb M r3 g1 hgW hkb hkb1 hcell hin hf s2 s3 hf' M2 hkb2 hd hks hp hm
    subst hW
    go_enter Tryz.func79, Tryz.ntmps79
    go_wp2_with fail
    go_region
    go_wp2
    go_ret
    exact ⟨rfl, HR.out⟩
end Go.Proofs.YtebaopiedlioiaaGreatDoor
namespace Go.Proofs.YtebaopiedlioiaaGreatDoor
open Go.RowKit
open Wo (Wd)

/-- All blocks but two stay. -/
structure Gr2 (w w' : World) (a b : Nat) : Prop where
  os : w'.os = w.os
  tape : w'.tape = w.tape
  output : w'.output = w.output
  size : w.heap.size ≤ w'.heap.size
  block : ∀ k, k < w.heap.size → k ≠ a → k ≠ b → w'.heap[k]? = w.heap[k]?
theorem Gr2.ofA {w w' : World} {a b : Nat} (h : w.grownBy w' (some a)) : Gr2 w w' a b := ⟨h.os, h.tape, h.output, h.size, fun k hk h1 _ => h.block k hk (fun q => h1 (by injection q))⟩
theorem Gr2.ofB {w w' : World} {a b : Nat} (h : w.grownBy w' (some b)) : Gr2 w w' a b := ⟨h.os, h.tape, h.output, h.size, fun k hk _ h1 => h.block k hk (fun q => h1 (by injection q))⟩
theorem Gr2.two {w w1 w2 : World} {a b : Nat} (h : Gr2 w w1 a b) (k : Gr2 w1 w2 a b) : Gr2 w w2 a b :=
  ⟨k.os.trans h.os, k.tape.trans h.tape, k.output.trans h.output, Nat.le_trans h.size k.size, fun i hi h1 h2 => (k.block i (Nat.lt_of_lt_of_le hi h.size) h1 h2).trans (h.block i hi h1 h2)⟩
/-- What a call leaves where it gives up, two blocks changed. -/
def JGav2 (w : World) (rb mb : Nat) (f : Ru.Ft) (en : Ending) (w' : World) : Prop := ∃ e : Int, en = .panicked (pan e) ∧ JFt w' rb f ∧ Gr2 w w' rb mb
theorem JGave.two {w w' : World} {rb mb : Nat} {f : Ru.Ft} {en : Ending} (h : JGave w rb f en w') : JGav2 w rb mb f en w' := by
  obtain ⟨e, h1, h2, h3⟩ := h
  exact ⟨e, h1, h2, Gr2.ofA h3⟩
theorem JGav2.after {w w1 w2 : World} {rb mb : Nat} {f : Ru.Ft} {en : Ending} (h : JGav2 w1 rb mb f en w2) (h1 : Gr2 w w1 rb mb) : JGav2 w rb mb f en w2 := by
  obtain ⟨e, rfl, hf, hg⟩ := h
  exact ⟨e, rfl, hf, h1.two hg⟩
/-- An end of a link: its device's place and its port, what is left. -/
def endJ (hp : Nat → List UInt8 → Bool) (ns : List (List UInt8)) (ks : List (Nat × List UInt8)) (e : Wd) (l : List Wd) : Except Ru.Ft (Nat × List UInt8) :=
  let y := Ru.nx e l
  let z := Ru.nx e l.tail
  if Wo.nameB y.1 = false then .error (Ru.ft y 31)
  else if y.1 ∉ ns then .error (Ru.ft y 112)
  else if Wo.nameB z.1 = false then .error (Ru.ft z 31)
  else if (ns.idxOf y.1, z.1) ∈ ks then .error (Ru.ft z 111)
  else if hp (ns.idxOf y.1) z.1 = false then .error (Ru.ft z 112)
  else .ok (ns.idxOf y.1, z.1)
/-- What end leaves. -/
def EndQ (w : World) (rb g mb : Nat) (c0 c1 c2 c3 : Value) (x e : Wd) (ks : List (Nat × List UInt8)) (t : List Wd) (r : Except Ru.Ft (Nat × List UInt8)) (en : Ending) (w' : World) : Prop :=
  (∃ p m, r = .ok (p, m) ∧ en = .returned (.agg #[.int .i64 p, .string (tx m)]) ∧ JRd w' rb g c0 c1 c2 c3 (.map (some mb)) x t e ∧ TakAt w' mb (ks ++ [(p, m)]) ∧ Gr2 w w' rb mb) ∨ (∃ f, r = .error f ∧ JGav2 w rb mb f en w')

set_option maxRecDepth 20000 in
set_option maxHeartbeats 2000000 in
theorem oend_any {w : World} {rb g nb mb : Nat} {c0 c1 c2 : Value} {x : Wd} {l : List Wd} {e : Wd} {ns : List (List UInt8)} {ks : List (Nat × List UInt8)} {hp : Nat → List UInt8 → Bool} (h : JRd w rb g c0 c1 c2 (.map (some nb)) (.map (some mb)) x l e) (hN : NumAt w nb ns) (hT : TakAt w mb ks) (hnr : nb ≠ rb) (hmr : mb ≠ rb) (hgm : g ≠ mb) (hx : (Ru.nx e l).1.length ≤ 1048576) (hz : (Ru.nx e l.tail).1.length ≤ 1048576) (hnl : ns.length ≤ 100000) (hks : ks.length ≤ 1048576)
    (HP : ∀ (W : World) (p : Nat) (m : List UInt8), Gr2 w W rb mb → m.length ≤ 1048576 → Calls Tryz.prog 77 #[c1, .agg #[.int .i64 p, .string (tx m)]] W fun en w' => en = .returned (.bool (hp p m)) ∧ Below W.heap.size W w') :
    Calls Tryz.prog 135 #[.pointer (some ⟨rb, 0, none⟩)] w fun en w' => EndQ w rb g mb c0 c1 c2 (.map (some nb)) x e ks l.tail.tail (endJ hp ns ks e l) en w' := by
  have HH := hid HP
  obtain ⟨Wa, hWa⟩ : ∃ Wa, Wa = w.alloc (.cells #[.int .i64 0, .string ⟨#[]⟩] 95 (0, 0)) := ⟨_, rfl⟩
  have hwa : Below w.heap.size w Wa := by rw [hWa]; exact (Below.refl _ _).alloc (Nat.le_refl _) _
  have hka : Wa.heap[w.heap.size]? = some (.cells #[.int .i64 0, .string ⟨#[]⟩] 95 (0, 0)) := by rw [hWa]; exact new_0 _ _
  have hsa : Wa.heap.size = w.heap.size + 1 := by rw [hWa]; simp
  have HA := hid (oname_on (JOn.start (h.below hwa)) hx)
  have hrl := h.lt
  have hgl := h.gl.1
  have hml := hT.lt
  have hnb := hN.lt
  obtain ⟨y, hy⟩ : ∃ y, y = Ru.nx e l := ⟨_, rfl⟩
  obtain ⟨z, hzz⟩ : ∃ z, z = Ru.nx e l.tail := ⟨_, rfl⟩
  have HM := hid (show endJ hp ns ks e l = if Wo.nameB y.1 = false then .error (Ru.ft y 31) else if y.1 ∉ ns then .error (Ru.ft y 112) else if Wo.nameB z.1 = false then .error (Ru.ft z 31) else if (ns.idxOf y.1, z.1) ∈ ks then .error (Ru.ft z 111) else if hp (ns.idxOf y.1) z.1 = false then .error (Ru.ft z 112) else .ok (ns.idxOf y.1, z.1) by rw [hy, hzz]; rfl)
  obtain ⟨R, hR⟩ : ∃ R, R = endJ hp ns ks e l := ⟨_, rfl⟩
  rw [← hR] at HM ⊢
  rw [← hy] at HA hx
  rw [← hzz] at hz
  have HZ := hid (fun (W0 W : World) (q : JOn W0 W rb g c0 c1 c2 (.map (some nb)) (.map (some mb)) x l.tail e) => (by have := oname_on q (by rw [← hzz]; exact hz); rw [← hzz] at this; exact this : Calls Tryz.prog 132 #[.pointer (some ⟨rb, 0, none⟩)] W fun en w' => (Hid (Wo.nameB z.1 = true) ∧ en = .returned (wv z) ∧ Hid (JOn W0 w' rb g c0 c1 c2 (.map (some nb)) (.map (some mb)) x l.tail.tail e)) ∨ (Hid (Wo.nameB z.1 = false) ∧ JGave W0 rb (Ru.ft z 31) en w')))
  have HNT := hid hN
  have HTT := hid hT
  have HWA := hid (show Gr2 w Wa rb mb from Gr2.ofA (grown_of_below _ hwa))
  have HHWA := hid hwa
  clear HP h hy hzz hR hN hT hwa
  go_enter Tryz.func135, Tryz.ntmps135
  go_wp2_with fail
  rw [← hWa]
  refine HA.out.mono ?_
  rintro en w1 (⟨HB, rfl, H1⟩ | ⟨HB, q, rfl, hf, hg⟩)
  · obtain ⟨o1, cap1, ⟨-, -, -, k3, -⟩, -, -, -, -, -⟩ := H1.out.rd.cells
    have hs1 := H1.out.on.size
    have hb1 := (H1.out.on.block w.heap.size (by omega) (fun q => by injection q with q; omega)).trans hka
    have hN1 : NumAt w1 nb ns := HNT.out.same ((H1.out.on.block nb (by omega) (fun q => by injection q; contradiction)).trans (HHWA.out.block nb hnb))
    have hl1 := (hN1.same (w' := (w1.alloc (wob y)).drew) (heap_old w1 (wob y) hN1.lt)).look hx
    have hrl1 := H1.out.rd.lt
    have a3 := alloc_cell k3 hrl1
    obtain ⟨d, hd⟩ : ∃ d, d = (numO ns y.1).getD 0 := ⟨_, rfl⟩
    rw [← hd] at hl1
    have HD := hid hd
    have HN1 := hid hN1
    clear hd hN1
    have H2 := hid (H1.out.alloc (wob y)).drew
    by_cases hin : y.1 ∈ ns
    · obtain ⟨p, hp0⟩ : ∃ p, p = ns.idxOf y.1 := ⟨_, rfl⟩
      have hdp : d = (p : Int) + 1 := by rw [HD.out, hp0]; unfold numO; rw [if_pos hin]; rfl
      have hpl : p < 100000 := by rw [hp0]; have := List.idxOf_lt_length_of_mem hin; omega
      have HM2 := hid (show R = if Wo.nameB z.1 = false then .error (Ru.ft z 31) else if (p, z.1) ∈ ks then .error (Ru.ft z 111) else if hp p z.1 = false then .error (Ru.ft z 112) else .ok (p, z.1) by rw [HM.out, HB.out, hp0]; simp [hin])
      have hdI : (0 : Int) < (p : Int) + 1 := by omega
      rw [hdp] at hl1
      clear HD hp0 hin HM hdp
      go_wp2_with fail
      go_region
      go_wp2_with fail
      refine (omust_yes _ _ _ _).mono ?_
      rintro en w3 ⟨rfl, hw3⟩
      have hb3 : w3.heap[w.heap.size]? = some (.cells #[.int .i64 0, .string ⟨#[]⟩] 95 (0, 0)) := by
        rw [hw3, heap_old _ _ (by show w.heap.size < (w1.alloc (wob y)).heap.size; simp only [World.size_alloc]; omega)]
        exact (heap_old _ _ (by omega)).trans hb1
      have hy3 : w3.heap[w1.heap.size]? = some (wob y) := by
        rw [hw3, heap_old _ _ (by show w1.heap.size < (w1.alloc (wob y)).heap.size; simp only [World.size_alloc]; omega)]
        exact new_0 _ _
      have hs3 : w3.heap.size = w1.heap.size + 2 := by rw [hw3]; show ((w1.alloc (wob y)).drew.alloc (wob y)).heap.size = _; simp
      have H3 := hid (show JOn Wa w3 rb g c0 c1 c2 (.map (some nb)) (.map (some mb)) x l.tail e by rw [hw3]; exact H2.out.alloc _)
      obtain ⟨kb, hkb⟩ : ∃ kb, kb = w1.heap.size := ⟨_, rfl⟩
      obtain ⟨xb, hxb⟩ : ∃ xb, xb = w.heap.size := ⟨_, rfl⟩
      have HKB := hid hkb
      have HXB := hid hxb
      rw [← hkb] at hy3 hs3 ⊢
      rw [← hxb] at hb3 ⊢
      have hxlt : xb < kb := by omega
      have hkx : ¬ kb = xb := by omega
      have hxk : ¬ xb = kb := by omega
      have hkr : ¬ kb = rb := by omega
      have hxr : ¬ xb = rb := by omega
      have hrk : ¬ rb = kb := by omega
      have hrx : ¬ rb = xb := by omega
      clear hw3 H2 hl1 a3 k3 hb1 hs1 hkb hxb
      go_wp2_with fail
      refine (HZ.out _ _ (JOn.start H3.out.rd)).mono ?_
      rintro en w4 (⟨HC, rfl, H4⟩ | ⟨HC, q, rfl, hf, hg⟩)
      · have hs4 := H4.out.on.size
        have hb4 := (H4.out.on.block xb (by omega) (fun q => by injection q; contradiction)).trans hb3
        have hy4 := (H4.out.on.block kb (by omega) (fun q => by injection q; contradiction)).trans hy3
        have x0 := cell_at (o := 0) hy4
        have x1 := cell_at (o := 1) hy4
        have x2 := cell_at (o := 2) hy4
        have z0 := cell_at (o := 0) hb4
        have z1 := cell_at (o := 1) hb4
        have y0 : w4.frozen? ⟨kb, 0, none⟩ = false := free_of hy4
        have y1 : w4.frozen? ⟨kb, 1, none⟩ = false := free_of hy4
        have y2 : w4.frozen? ⟨kb, 2, none⟩ = false := free_of hy4
        have v0 : w4.frozen? ⟨xb, 0, none⟩ = false := free_of hb4
        have v1 : w4.frozen? ⟨xb, 1, none⟩ = false := free_of hb4
        simp only [List.getElem?_toArray, List.getElem?_cons_succ, List.getElem?_cons_zero] at x0 x1 x2 z0 z1
        obtain ⟨o4, cap4, ⟨-, k1, -, -, k4⟩, -, -, -, -, -⟩ := H4.out.rd.cells
        have hpI : (p : Int) + 1 - 1 = p := by omega
        obtain ⟨W5, hW5⟩ : ∃ W5, W5 = (((w4.setCell ⟨kb, 0, none⟩ (.string (tx z.1))).setCell ⟨kb, 1, none⟩ (.int .i64 z.2.1)).setCell ⟨kb, 2, none⟩ (.int .i64 z.2.2)).alloc (eob p z.1) := ⟨_, rfl⟩
        have hq4 : (((w4.setCell ⟨kb, 0, none⟩ (.string (tx z.1))).setCell ⟨kb, 1, none⟩ (.int .i64 z.2.1)).setCell ⟨kb, 2, none⟩ (.int .i64 z.2.2)).heap.size = w4.heap.size := by simp only [World.size_setCell]
        have hs5 : W5.heap.size = w4.heap.size + 1 := by rw [hW5]; simp only [World.size_alloc, World.size_setCell]
        have hf5 : ∀ k, k < w4.heap.size → k ≠ kb → W5.heap[k]? = w4.heap[k]? := fun k hk hne => by
          rw [hW5, heap_old _ _ (by rw [hq4]; exact hk), Below.heap_setCell _ _ _ _ hne, Below.heap_setCell _ _ _ _ hne, Below.heap_setCell _ _ _ _ hne]
        have hz5 : W5.heap[kb]? = some (wob z) := by
          rw [hW5, heap_old _ _ (by rw [hq4]; omega), block_set (o := 2) _ (block_set (o := 1) _ (block_set (o := 0) _ hy4))]
          rfl
        have he5 : W5.heap[w4.heap.size]? = some (eob p z.1) := by
          rw [hW5]
          have := new_0 (((w4.setCell ⟨kb, 0, none⟩ (.string (tx z.1))).setCell ⟨kb, 1, none⟩ (.int .i64 z.2.1)).setCell ⟨kb, 2, none⟩ (.int .i64 z.2.2)) (eob p z.1)
          rw [hq4] at this
          exact this
        have h45 : w4.grownBy W5 (some kb) := by
          rw [hW5]
          exact grown_two (grown_two (grown_two (grown_set _ _ _ _) (grown_set _ _ _ _)) (grown_set _ _ _ _)) (grown_alloc _ _ _)
        have hnk : ∀ k, k < xb → k ≠ kb := fun k hk => by omega
        have J5 := hid (H4.out.rd.grown (w' := W5) (fun k hk => hf5 k (by rcases hk with rfl | rfl; exact H4.out.rd.lt; exact H4.out.rd.gl.1) (by rcases hk with rfl | rfl; exact hrk; exact hnk _ (by have := HXB.out; omega))) (by omega))
        have hws3 := H3.out.on.size
        have hxw := HXB.out
        have hmb5 : W5.heap[mb]? = w.heap[mb]? := (hf5 mb (by omega) (hnk _ (by omega))).trans ((H4.out.on.block mb (by omega) (fun q => by injection q; contradiction)).trans ((H3.out.on.block mb (by omega) (fun q => by injection q; contradiction)).trans (HHWA.out.block mb hml)))
        have G4 : Gr2 w w4 rb mb := (HWA.out.two (Gr2.ofA H3.out.on)).two (Gr2.ofA H4.out.on)
        have G5 := hid (show Gr2 w W5 rb mb from ⟨h45.os.trans G4.os, h45.tape.trans G4.tape, h45.output.trans G4.output, Nat.le_trans G4.size h45.size, fun k hk q1 q2 => (hf5 k (Nat.lt_of_lt_of_le hk G4.size) (hnk _ (by omega))).trans (G4.block k hk q1 q2)⟩)
        have hb5 := (hf5 xb (by omega) hxk).trans hb4
        have T5 := hid (HTT.out.same hmb5)
        have kr5 : W5.heap[rb]? = w4.heap[rb]? := hf5 rb (by omega) hrk
        have d1 : W5.cell? ⟨rb, 1, none⟩ = some c1 := (World.cell?_of_block kr5).trans k1
        have d4 : W5.cell? ⟨rb, 4, none⟩ = some (.map (some mb)) := (World.cell?_of_block kr5).trans k4
        obtain ⟨qb, hqb⟩ : ∃ qb, qb = w4.heap.size := ⟨_, rfl⟩
        have hkq : kb < qb := by omega
        have hmq : mb < qb := by omega
        have hrq : rb < qb := by omega
        have hgq : g < qb := by omega
        have hmk : mb ≠ kb := by omega
        have hmg : mb ≠ g := fun q => hgm q.symm
        rw [← hqb] at he5 hs5
        have e0 : W5.cell? ⟨qb, 0, none⟩ = some (.int .i64 p) := by rw [cell_at he5]; rfl
        have e1 : W5.cell? ⟨qb, 1, none⟩ = some (.string (tx z.1)) := by rw [cell_at he5]; rfl
        have f0 : W5.cell? ⟨kb, 0, none⟩ = some (.string (tx z.1)) := by rw [cell_at hz5]; rfl
        have f1 : W5.cell? ⟨kb, 1, none⟩ = some (.int .i64 z.2.1) := by rw [cell_at hz5]; rfl
        have f2 : W5.cell? ⟨kb, 2, none⟩ = some (.int .i64 z.2.2) := by rw [cell_at hz5]; rfl
        obtain ⟨b, hb⟩ : ∃ b, b = decide ((p, z.1) ∉ ks) := ⟨_, rfl⟩
        have HTK := hid (fun (W : World) (hW : W = W5 ∨ W = W5.drew) => (by
          have hWh : ∀ k : Nat, W.heap[k]? = W5.heap[k]? := fun k => by rcases hW with rfl | rfl <;> rfl
          have hWs : W.heap.size = W5.heap.size := by rcases hW with rfl | rfl <;> rfl
          have hWg : Gr2 W5 W rb mb := by rcases hW with rfl | rfl <;> exact ⟨rfl, rfl, rfl, Nat.le_refl _, fun _ _ _ _ => rfl⟩
          refine (otake (T5.out.same (hWh mb)) p z.1 (by omega) hz hks).mono ?_
          rintro en w' ⟨h1, h2, h3⟩
          have hbl : ∀ k : Nat, k < qb + 1 → k ≠ mb → w'.heap[k]? = W5.heap[k]? := fun k hk hne => (h3.block k (by omega) (fun q => hne (by injection q))).trans (hWh k)
          have hc : ∀ (k o : Nat), k < qb + 1 → k ≠ mb → w'.cell? ⟨k, o, none⟩ = W5.cell? ⟨k, o, none⟩ := fun k o hk hne => World.cell?_of_block (hbl k hk hne)
          refine ⟨by rw [h1, hb], ⟨fun q => h2 (of_decide_eq_true (hb.symm.trans q)), J5.out.grown (fun k hk => hbl k (by rcases hk with rfl | rfl <;> omega) (by rcases hk with rfl | rfl; exact hmr.symm; exact hgm)) (by have := h3.size; omega), (G5.out.two hWg).two (Gr2.ofB h3)⟩, ⟨(hc kb 0 (by omega) hmk.symm).trans f0, (hc kb 1 (by omega) hmk.symm).trans f1, (hc kb 2 (by omega) hmk.symm).trans f2, (hc rb 4 (by omega) hmr.symm).trans d4, (hc qb 0 (by omega) (by omega)).trans e0, (hc qb 1 (by omega) (by omega)).trans e1⟩, (hc rb 1 (by omega) hmr.symm).trans d1, by have := h3.size; omega, (hbl qb (by omega) (by omega)).trans he5, (hbl kb (by omega) hmk.symm).trans hz5, (hbl xb (by omega) (by omega)).trans hb5⟩ : Calls Tryz.prog 79 #[.map (some mb), .agg #[.int .i64 p, .string (tx z.1)]] W fun en w' => en = .returned (.bool b) ∧ Hid ((b = true → TakAt w' mb (ks ++ [(p, z.1)])) ∧ JRd w' rb g c0 c1 c2 (.map (some nb)) (.map (some mb)) x l.tail.tail e ∧ Gr2 w w' rb mb) ∧ (w'.cell? ⟨kb, 0, none⟩ = some (.string (tx z.1)) ∧ w'.cell? ⟨kb, 1, none⟩ = some (.int .i64 z.2.1) ∧ w'.cell? ⟨kb, 2, none⟩ = some (.int .i64 z.2.2) ∧ w'.cell? ⟨rb, 4, none⟩ = some (.map (some mb)) ∧ w'.cell? ⟨qb, 0, none⟩ = some (.int .i64 p) ∧ w'.cell? ⟨qb, 1, none⟩ = some (.string (tx z.1))) ∧ w'.cell? ⟨rb, 1, none⟩ = some c1 ∧ qb < w'.heap.size ∧ w'.heap[qb]? = some (eob p z.1) ∧ w'.heap[kb]? = some (wob z) ∧ w'.heap[xb]? = some (.cells #[.int .i64 0, .string ⟨#[]⟩] 95 (0, 0))))
        clear hxw hws3
        go_wp2_with fail
        rw [← hW5, ← hqb]
        clear hqb hW5 h45 kr5 G4 hf5 hnk hmb5 hq4
        have HBM := hid hb
        clear hb
        have HMU := hid (fun (W : World) (hW : JRd W rb g c0 c1 c2 (.map (some nb)) (.map (some mb)) x l.tail.tail e) (c : Bool) (n : Nat) => ((omust_two hW c z n).mono fun _ _ h => h.elim (fun h => Or.inl ⟨hid h.1, h.2⟩) (fun h => Or.inr ⟨hid h.1, h.2⟩) : Calls Tryz.prog 56 #[.pointer (some ⟨rb, 0, none⟩), .bool c, wv z, .int .i64 n] W fun en w' => (Hid (c = true) ∧ en = .returned (.tuple #[]) ∧ w' = W.alloc (wob z)) ∨ (Hid (c = false) ∧ JGave W rb (Ru.ft z n) en w')))
        have HE1 := hid (fun (hb : b = false) => (show R = .error (Ru.ft z 111) by rw [HM2.out, if_neg (by rw [HC.out]; simp), if_pos (by have := HBM.out; rw [hb] at this; simpa using this.symm)]))
        have HKA := hid (fun (V : World) (ob : Obj) (hq : qb < V.heap.size) (hS : V.cell? ⟨kb, 0, none⟩ = some (.string (tx z.1)) ∧ V.cell? ⟨kb, 1, none⟩ = some (.int .i64 z.2.1) ∧ V.cell? ⟨kb, 2, none⟩ = some (.int .i64 z.2.2) ∧ V.cell? ⟨rb, 4, none⟩ = some (.map (some mb)) ∧ V.cell? ⟨qb, 0, none⟩ = some (.int .i64 p) ∧ V.cell? ⟨qb, 1, none⟩ = some (.string (tx z.1))) => (show (V.alloc ob).cell? ⟨kb, 0, none⟩ = some (.string (tx z.1)) ∧ (V.alloc ob).cell? ⟨kb, 1, none⟩ = some (.int .i64 z.2.1) ∧ (V.alloc ob).cell? ⟨kb, 2, none⟩ = some (.int .i64 z.2.2) ∧ (V.alloc ob).cell? ⟨rb, 4, none⟩ = some (.map (some mb)) ∧ (V.alloc ob).cell? ⟨qb, 0, none⟩ = some (.int .i64 p) ∧ (V.alloc ob).cell? ⟨qb, 1, none⟩ = some (.string (tx z.1)) from ⟨alloc_cell hS.1 (by omega) ob, alloc_cell hS.2.1 (by omega) ob, alloc_cell hS.2.2.1 (by omega) ob, alloc_cell hS.2.2.2.1 (by omega) ob, alloc_cell hS.2.2.2.2.1 hq ob, alloc_cell hS.2.2.2.2.2 hq ob⟩))
        go_region_held2 (fun w' => w'.cell? ⟨kb, 0, none⟩ = some (.string (tx z.1)) ∧ w'.cell? ⟨kb, 1, none⟩ = some (.int .i64 z.2.1) ∧ w'.cell? ⟨kb, 2, none⟩ = some (.int .i64 z.2.2) ∧ w'.cell? ⟨rb, 4, none⟩ = some (.map (some mb)) ∧ w'.cell? ⟨qb, 0, none⟩ = some (.int .i64 p) ∧ w'.cell? ⟨qb, 1, none⟩ = some (.string (tx z.1))) (first | exact ⟨f0, f1, f2, d4, e0, e1⟩ | exact hS5 | exact HKA.out _ _ hq6 hS5) (first | (go_at_call 79; refine (HTK.out _ (by first | exact Or.inl rfl | exact Or.inr rfl)).mono ?_; rintro en w6 ⟨rfl, H6, hS5, hr6, hq6, hE6, hZ6, hX6⟩) | (go_at_call 56; refine (HMU.out _ H6.out.2.1 b 111).mono ?_; rintro en w7 (⟨HBT, rfl, rfl⟩ | ⟨HBT, q, rfl, hf, hg⟩); rotate_left; (exact ⟨rfl, Or.inr ⟨_, HE1.out HBT.out, q, rfl, hf, H6.out.2.2.two (Gr2.ofA hg)⟩⟩)))
        obtain ⟨w7, hw7⟩ : ∃ w7, w7 = w6.alloc (wob z) := ⟨_, rfl⟩
        have J7 := hid (show JRd w7 rb g c0 c1 c2 (.map (some nb)) (.map (some mb)) x l.tail.tail e by rw [hw7]; exact H6.out.2.1.alloc _)
        have T7 := hid (show TakAt w7 mb (ks ++ [(p, z.1)]) by rw [hw7]; have := H6.out.1 HBT.out; exact this.same (heap_old _ _ this.lt))
        have G7 := hid (show Gr2 w w7 rb mb by rw [hw7]; exact H6.out.2.2.two (Gr2.ofA (grown_alloc _ _ _)))
        have hs7 : w7.heap.size = w6.heap.size + 1 := by rw [hw7]; simp
        have hX7 : w7.heap[xb]? = some (.cells #[.int .i64 0, .string ⟨#[]⟩] 95 (0, 0)) := by rw [hw7, heap_old _ _ (by omega)]; exact hX6
        have hS7 : w7.cell? ⟨kb, 0, none⟩ = some (.string (tx z.1)) ∧ w7.cell? ⟨kb, 1, none⟩ = some (.int .i64 z.2.1) ∧ w7.cell? ⟨kb, 2, none⟩ = some (.int .i64 z.2.2) ∧ w7.cell? ⟨rb, 1, none⟩ = some c1 ∧ w7.cell? ⟨qb, 0, none⟩ = some (.int .i64 p) ∧ w7.cell? ⟨qb, 1, none⟩ = some (.string (tx z.1)) := by
          rw [hw7]
          exact ⟨alloc_cell hS5.1 (by omega) _, alloc_cell hS5.2.1 (by omega) _, alloc_cell hS5.2.2.1 (by omega) _, alloc_cell hr6 (by omega) _, alloc_cell hS5.2.2.2.2.1 hq6 _, alloc_cell hS5.2.2.2.2.2 hq6 _⟩
        have hq7 : qb < w7.heap.size := by omega
        have HNB := hid (show (p, z.1) ∉ ks by have := HBM.out; rw [HBT.out] at this; exact of_decide_eq_true this.symm)
        have HKC := hid (fun (V : World) (hV : Below w7.heap.size w7 V) => (show V.cell? ⟨kb, 0, none⟩ = some (.string (tx z.1)) ∧ V.cell? ⟨kb, 1, none⟩ = some (.int .i64 z.2.1) ∧ V.cell? ⟨kb, 2, none⟩ = some (.int .i64 z.2.2) ∧ V.cell? ⟨rb, 1, none⟩ = some c1 ∧ V.cell? ⟨qb, 0, none⟩ = some (.int .i64 p) ∧ V.cell? ⟨qb, 1, none⟩ = some (.string (tx z.1)) from ⟨(hV.cell (by show kb < _; omega)).trans hS7.1, (hV.cell (by show kb < _; omega)).trans hS7.2.1, (hV.cell (by show kb < _; omega)).trans hS7.2.2.1, (hV.cell (by show rb < _; omega)).trans hS7.2.2.2.1, (hV.cell (by exact hq7)).trans hS7.2.2.2.2.1, (hV.cell (by exact hq7)).trans hS7.2.2.2.2.2⟩))
        rw [← hw7]
        obtain ⟨bh, hbh⟩ : ∃ bh, bh = hp p z.1 := ⟨_, rfl⟩
        have HBH := hid hbh
        have HHP := hid (fun (W : World) (hW : Below w7.heap.size w7 W) => (by
          rw [hbh]
          refine (HH.out W p z.1 (G7.out.two (Gr2.ofA (grown_of_below _ hW))) hz).mono ?_
          rintro en w' ⟨h1, h2⟩
          exact ⟨h1, hid (below_two hW h2)⟩ : Calls Tryz.prog 77 #[c1, .agg #[.int .i64 p, .string (tx z.1)]] W fun en w' => en = .returned (.bool bh) ∧ Hid (Below w7.heap.size w7 w')))
        have HE2 := hid (fun (hb : bh = false) => (show R = .error (Ru.ft z 112) by rw [HM2.out, if_neg (by rw [HC.out]; simp), if_neg HNB.out, if_pos (by rw [← HBH.out]; exact hb)]))
        have BR := hid (Below.refl w7.heap.size w7)
        clear hw7 hbh hS5 hr6 hq6 hE6 hZ6 hX6 hs7 H6 HKA HTK f0 f1 f2 d1 d4 e0 e1 he5 hz5 hs5 x0 x1 x2 y0 y1 y2 z0 z1 v0 v1 hy4 hb4 hb5 J5 T5 G5 hb3 hy3
        go_wp2_with fail
        go_region_held2 (fun w' => w'.cell? ⟨kb, 0, none⟩ = some (.string (tx z.1)) ∧ w'.cell? ⟨kb, 1, none⟩ = some (.int .i64 z.2.1) ∧ w'.cell? ⟨kb, 2, none⟩ = some (.int .i64 z.2.2) ∧ w'.cell? ⟨rb, 1, none⟩ = some c1 ∧ w'.cell? ⟨qb, 0, none⟩ = some (.int .i64 p) ∧ w'.cell? ⟨qb, 1, none⟩ = some (.string (tx z.1))) (first | exact hS7 | exact HKC.out _ H8.out | exact HKC.out _ (H8.out.alloc H8.out.size _)) (first | (go_at_call 77; refine (HHP.out _ (by first | exact BR.out | exact BR.out.drew)).mono ?_; rintro en w8 ⟨rfl, H8⟩) | (go_at_call 56; refine (HMU.out _ (J7.out.below H8.out) bh 112).mono ?_; rintro en w9 (⟨HBU, rfl, rfl⟩ | ⟨HBU, q, rfl, hf, hg⟩); rotate_left; (exact ⟨rfl, Or.inr ⟨_, HE2.out HBU.out, q, rfl, hf, (G7.out.two (Gr2.ofA (grown_of_below _ H8.out))).two (Gr2.ofA hg)⟩⟩)))
        have B9 := hid (show Below w7.heap.size w7 (w8.alloc (wob z)) from H8.out.alloc H8.out.size _)
        have hs9 := B9.out.size
        have hX9 := (B9.out.block xb (by omega)).trans hX7
        have hS9 := HKC.out _ B9.out
        have n0 := cell_at (o := 0) hX9
        have n1 := cell_at (o := 1) hX9
        have m0 : (w8.alloc (wob z)).frozen? ⟨xb, 0, none⟩ = false := free_of hX9
        have m1 : (w8.alloc (wob z)).frozen? ⟨xb, 1, none⟩ = false := free_of hX9
        simp only [List.getElem?_toArray, List.getElem?_cons_succ, List.getElem?_cons_zero] at n0 n1
        obtain ⟨-, -, -, -, q0, q1⟩ := hS9
        have hxs : xb < (w8.alloc (wob z)).heap.size := by omega
        have HFI := hid (show EndQ w rb g mb c0 c1 c2 (.map (some nb)) x e ks l.tail.tail R (.returned (.agg #[.int .i64 p, .string (tx z.1)])) (((w8.alloc (wob z)).setCell ⟨xb, 0, none⟩ (.int .i64 p)).setCell ⟨xb, 1, none⟩ (.string (tx z.1))) by
          have hxw := HXB.out
          have hf : ∀ k : Nat, k ≠ xb → (((w8.alloc (wob z)).setCell ⟨xb, 0, none⟩ (.int .i64 p)).setCell ⟨xb, 1, none⟩ (.string (tx z.1))).heap[k]? = (w8.alloc (wob z)).heap[k]? := fun k hk => by rw [Below.heap_setCell _ _ _ _ hk, Below.heap_setCell _ _ _ _ hk]
          have hs : (((w8.alloc (wob z)).setCell ⟨xb, 0, none⟩ (.int .i64 p)).setCell ⟨xb, 1, none⟩ (.string (tx z.1))).heap.size = (w8.alloc (wob z)).heap.size := by simp only [World.size_setCell]
          have G9 : Gr2 w (w8.alloc (wob z)) rb mb := G7.out.two (Gr2.ofA (grown_of_below _ B9.out))
          have J9 := J7.out.below B9.out
          have T9 := T7.out.same (B9.out.block mb T7.out.lt)
          refine Or.inl ⟨p, z.1, ?_, rfl, J9.grown (fun k hk => hf k (by rcases hk with rfl | rfl <;> omega)) (Nat.le_of_eq hs.symm), T9.same (hf mb (by omega)), G9.os, G9.tape, G9.output, by rw [hs]; exact G9.size, fun k hk a1 a2 => (hf k (by omega)).trans (G9.block k hk a1 a2)⟩
          rw [HM2.out, if_neg (by rw [HC.out]; simp), if_neg HNB.out, if_neg (by rw [← HBH.out, HBU.out]; simp)])
        clear hs9 hX9 hS7 hX7 B9
        go_wp2
        refine bodyPost_ret (v := .agg #[.int .i64 p, .string (tx z.1)]) (by simp [results, Tryz.results135, go_sem, n0, n1]) rfl ?_
        exact HFI.out
      · exact ⟨rfl, Or.inr ⟨_, by rw [HM2.out, if_pos HC.out], (JGave.two ⟨q, rfl, hf, grown_two H3.out.on hg⟩ : JGav2 Wa rb mb _ _ _).after HWA.out⟩⟩
    · have HER := hid (show R = .error (Ru.ft y 112) by rw [HM.out, HB.out, if_neg (by simp), if_pos hin])
      have hd0 : d = 0 := by rw [HD.out]; unfold numO; rw [if_neg hin]; rfl
      subst hd0
      clear HD hin HM
      go_wp2_with fail
      go_region
      go_wp2_with fail
      refine (omust_no H2.out.rd y 112).mono ?_
      rintro en w3 ⟨q, rfl, hf, hg⟩
      exact ⟨rfl, Or.inr ⟨_, HER.out, (JGave.two ⟨q, rfl, hf, grown_two H2.out.on hg⟩ : JGav2 Wa rb mb _ _ _).after HWA.out⟩⟩
  · exact ⟨rfl, Or.inr ⟨_, by rw [HM.out, if_pos HB.out], (JGave.two ⟨q, rfl, hf, hg⟩ : JGav2 Wa rb mb _ _ _).after HWA.out⟩⟩
end Go.Proofs.YtebaopiedlioiaaGreatDoor
namespace Go.Proofs.YtebaopiedlioiaaGreatDoor
open Go.RowKit
open Wo (Wd)

/-- A reader within a link's line since w0. -/
structure JL (w0 w : World) (rb g nb mb : Nat) (c0 c1 c2 : Value) (x : Wd) (l : List Wd) (e : Wd) (ns : List (List UInt8)) (ks : List (Nat × List UInt8)) : Prop where
  rd : JRd w rb g c0 c1 c2 (.map (some nb)) (.map (some mb)) x l e
  num : NumAt w nb ns
  tak : TakAt w mb ks
  on : Gr2 w0 w rb mb
theorem JL.start {w : World} {rb g nb mb : Nat} {c0 c1 c2 : Value} {x : Wd} {l : List Wd} {e : Wd} {ns : List (List UInt8)} {ks : List (Nat × List UInt8)} (h : JRd w rb g c0 c1 c2 (.map (some nb)) (.map (some mb)) x l e) (hN : NumAt w nb ns) (hT : TakAt w mb ks) : JL w w rb g nb mb c0 c1 c2 x l e ns ks := ⟨h, hN, hT, Gr2.ofA (grown_refl _ _)⟩
theorem JL.below {w0 w w' : World} {rb g nb mb : Nat} {c0 c1 c2 : Value} {x : Wd} {l : List Wd} {e : Wd} {ns : List (List UInt8)} {ks : List (Nat × List UInt8)} (h : JL w0 w rb g nb mb c0 c1 c2 x l e ns ks) (hb : Below w.heap.size w w') : JL w0 w' rb g nb mb c0 c1 c2 x l e ns ks :=
  ⟨h.rd.below hb, h.num.same (hb.block nb h.num.lt), h.tak.same (hb.block mb h.tak.lt), h.on.two (Gr2.ofA (grown_of_below _ hb))⟩
theorem JL.alloc {w0 w : World} {rb g nb mb : Nat} {c0 c1 c2 : Value} {x : Wd} {l : List Wd} {e : Wd} {ns : List (List UInt8)} {ks : List (Nat × List UInt8)} (h : JL w0 w rb g nb mb c0 c1 c2 x l e ns ks) (o : Obj) : JL w0 (w.alloc o) rb g nb mb c0 c1 c2 x l e ns ks := h.below ((Below.refl _ _).alloc (Nat.le_refl _) _)
theorem JL.drew {w0 w : World} {rb g nb mb : Nat} {c0 c1 c2 : Value} {x : Wd} {l : List Wd} {e : Wd} {ns : List (List UInt8)} {ks : List (Nat × List UInt8)} (h : JL w0 w rb g nb mb c0 c1 c2 x l e ns ks) : JL w0 w.drew rb g nb mb c0 c1 c2 x l e ns ks := h.below (Below.refl _ _).drew
/-- The reader's own block alone has changed. -/
theorem JL.own {w0 w w' : World} {rb g nb mb : Nat} {c0 c1 c2 : Value} {x : Wd} {l l' : List Wd} {e : Wd} {ns : List (List UInt8)} {ks : List (Nat × List UInt8)} (h : JL w0 w rb g nb mb c0 c1 c2 x l e ns ks) (hnr : nb ≠ rb) (hmr : mb ≠ rb) (hr : JRd w' rb g c0 c1 c2 (.map (some nb)) (.map (some mb)) x l' e) (hg : w.grownBy w' (some rb)) : JL w0 w' rb g nb mb c0 c1 c2 x l' e ns ks :=
  ⟨hr, h.num.same (hg.block nb h.num.lt (fun q => hnr (by injection q))), h.tak.same (hg.block mb h.tak.lt (fun q => hmr (by injection q))), h.on.two (Gr2.ofA hg)⟩
theorem onext_l {w0 w : World} {rb g nb mb : Nat} {c0 c1 c2 : Value} {x : Wd} {l : List Wd} {e : Wd} {ns : List (List UInt8)} {ks : List (Nat × List UInt8)} (h : JL w0 w rb g nb mb c0 c1 c2 x l e ns ks) (hnr : nb ≠ rb) (hmr : mb ≠ rb) :
    Calls Tryz.prog 129 #[.pointer (some ⟨rb, 0, none⟩)] w fun en w' => en = .returned (wv (Ru.nx e l)) ∧ Hid (JL w0 w' rb g nb mb c0 c1 c2 x l.tail e ns ks) :=
  (onext_any h.rd).mono fun _ _ q => ⟨q.1, h.own hnr hmr q.2.1 q.2.2⟩
theorem omust_l {w0 w : World} {rb g nb mb : Nat} {c0 c1 c2 : Value} {x : Wd} {l : List Wd} {e : Wd} {ns : List (List UInt8)} {ks : List (Nat × List UInt8)} (h : JL w0 w rb g nb mb c0 c1 c2 x l e ns ks) (b : Bool) (y : Wd) (n : Nat) :
    Calls Tryz.prog 56 #[.pointer (some ⟨rb, 0, none⟩), .bool b, wv y, .int .i64 n] w fun en w' => (Hid (b = true) ∧ en = .returned (.tuple #[]) ∧ w' = w.alloc (wob y)) ∨ (Hid (b = false) ∧ JGav2 w0 rb mb (Ru.ft y n) en w') :=
  (omust_two h.rd b y n).mono fun _ _ q => q.elim (fun q => Or.inl ⟨q.1, q.2⟩) (fun q => Or.inr ⟨q.1, q.2.two.after h.on⟩)
theorem ofinish_l {w0 w : World} {rb g nb mb : Nat} {c0 c1 c2 : Value} {x : Wd} {l : List Wd} {e : Wd} {ns : List (List UInt8)} {ks : List (Nat × List UInt8)} (h : JL w0 w rb g nb mb c0 c1 c2 x l e ns ks) (hnr : nb ≠ rb) (hmr : mb ≠ rb) :
    Calls Tryz.prog 131 #[.pointer (some ⟨rb, 0, none⟩)] w fun en w' => (Hid (l = []) ∧ en = .returned (.tuple #[]) ∧ Hid (JL w0 w' rb g nb mb c0 c1 c2 x l e ns ks)) ∨ (Hid (l ≠ []) ∧ JGav2 w0 rb mb (Ru.ft (Ru.nx e l) 110) en w') :=
  (ofinish_on (JOn.start h.rd)).mono fun _ _ q => q.elim (fun q => Or.inl ⟨q.1, q.2.1, h.own hnr hmr q.2.2.out.rd q.2.2.out.on⟩) (fun q => Or.inr ⟨q.1, q.2.two.after h.on⟩)
/-- An end within a link's line, both ways. -/
theorem oend_l {w0 w : World} {rb g nb mb : Nat} {c0 c1 c2 : Value} {x : Wd} {l : List Wd} {e : Wd} {ns : List (List UInt8)} {ks : List (Nat × List UInt8)} {hp : Nat → List UInt8 → Bool} (h : JL w0 w rb g nb mb c0 c1 c2 x l e ns ks) (hnr : nb ≠ rb) (hnm : nb ≠ mb) (hmr : mb ≠ rb) (hgm : g ≠ mb) (hx : (Ru.nx e l).1.length ≤ 1048576) (hz : (Ru.nx e l.tail).1.length ≤ 1048576) (hnl : ns.length ≤ 100000) (hks : ks.length ≤ 1048576)
    (HP : ∀ (W : World) (p : Nat) (m : List UInt8), Gr2 w0 W rb mb → m.length ≤ 1048576 → Calls Tryz.prog 77 #[c1, .agg #[.int .i64 p, .string (tx m)]] W fun en w' => en = .returned (.bool (hp p m)) ∧ Below W.heap.size W w') :
    Calls Tryz.prog 135 #[.pointer (some ⟨rb, 0, none⟩)] w fun en w' => (∃ p m, Hid (endJ hp ns ks e l = .ok (p, m)) ∧ en = .returned (.agg #[.int .i64 (p : Nat), .string (tx m)]) ∧ Hid (JL w0 w' rb g nb mb c0 c1 c2 x l.tail.tail e ns (ks ++ [(p, m)]))) ∨ (∃ f, Hid (endJ hp ns ks e l = .error f) ∧ JGav2 w0 rb mb f en w') := by
  refine (oend_any h.rd h.num h.tak hnr hmr hgm hx hz hnl hks (fun W p m hW hm => HP W p m (h.on.two hW) hm)).mono ?_
  rintro en w' (⟨p, m, h1, h2, h3, h4, h5⟩ | ⟨f, h1, h2⟩)
  · exact Or.inl ⟨p, m, h1, h2, h3, h.num.same (h5.block nb h.num.lt hnr hnm), h4, h.on.two h5⟩
  · exact Or.inr ⟨f, h1, h2.after h.on⟩
end Go.Proofs.YtebaopiedlioiaaGreatDoor
