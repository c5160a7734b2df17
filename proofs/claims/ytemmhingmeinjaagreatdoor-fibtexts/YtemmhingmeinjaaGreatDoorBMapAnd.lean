/-
  Lines in memory for reading; rules in memory; what holds while lines are read.
-/
import Derived.WalkKit
import Derived.Maps.OwnSet
import Derived.WideKeyEntry
import Derived.Test.YtemmhingmeinjaaGreatDoorUSortAnd
import Derived.DeepKeys5
namespace Go.Proofs.YtemmhingmeinjaaGreatDoor
open Go.RowKit Go.Maps

def MapOf (P : Program) (k e : TypeId) (w : World) (b sz : Nat) (f : Value → Option Int) : Prop :=
  ∃ D : DataW Unit, w.ownsMap P k (plainElem P e) b sz D ∧ Maps.size D = sz ∧
    ∀ key kl, keyOf P k key = some kl → Maps.has D kl = (f key).isSome ∧ ∀ c, f key = some c → D.atKey kl (.lit (.int .i64 0)) = .lit (.int .i64 c)

theorem owns_tight {P : Program} {k e : TypeId} {w : World} {b n : Nat} {D : DataW Unit} (h : w.ownsMap P k (plainElem P e) b n D) : w.ownsMap P k (plainElem P e) b (Maps.size D) D := by
  obtain ⟨es, clock, hb, F, _, rfl⟩ := h
  exact ⟨es, clock, hb, F, by simp [Maps.size, length_sorted], rfl⟩

theorem MapOf.lt {P : Program} {k e : TypeId} {w : World} {b sz : Nat} {f : Value → Option Int} (h : MapOf P k e w b sz f) : b < w.heap.size := by
  obtain ⟨D, h, _⟩ := h
  exact h.lt

theorem MapOf.congr {P : Program} {k e : TypeId} {w : World} {b sz : Nat} {f g : Value → Option Int} (h : MapOf P k e w b sz f) (hfg : ∀ key kl, keyOf P k key = some kl → f key = g key) : MapOf P k e w b sz g := by
  obtain ⟨D, h1, h2, h3⟩ := h
  refine ⟨D, h1, h2, fun key kl hk => ?_⟩
  rw [← hfg key kl hk]
  exact h3 key kl hk

theorem MapOf.same {P : Program} {k e : TypeId} {w w' : World} {b sz : Nat} {f : Value → Option Int} (h : MapOf P k e w b sz f) (hb : w'.heap[b]? = w.heap[b]?) : MapOf P k e w' b sz f := by
  obtain ⟨D, ⟨es, clock, h1, F, hs, hD⟩, h2, h3⟩ := h
  exact ⟨D, ⟨es, clock, hb.trans h1, F, hs, hD⟩, h2, h3⟩

theorem MapOf.new (P : Program) (k e : TypeId) (w : World) : MapOf P k e (w.alloc (.map #[] 0)) w.heap.size 0 (fun _ => none) :=
  ⟨.map [], World.ownsMap_made w P k _, rfl, fun key kl _ => ⟨by simp [Maps.has], fun c h => by cases h⟩⟩

theorem MapOf.look1 {P : Program} {k e t : TypeId} {w : World} {b sz : Nat} {f : Value → Option Int} (h : MapOf P k e w b sz f) (K : Keyed P k) (ht : P.underlying t = some (.map k e)) (he : P.underlying e = some (.int .i64))
    (hz : (zeroValue e).run P w = .ok (.int .i64 0) w) {key : Value} {kl : Lit} (hk : keyOf P k key = some kl) :
    (Instr.lookup t (.map (some b)) key false).run P w = .ok (.int .i64 ((f key).getD 0)) w := by
  obtain ⟨D, h1, h2, h3⟩ := h
  obtain ⟨c, hrun, hc, hwc⟩ := h1.lookup_int K ht he hz hk
  obtain ⟨h4, h5⟩ := h3 key kl hk
  rw [hrun]
  cases hf : f key with
  | none =>
    have : D.atKey kl (.lit (.int .i64 0)) = .lit (.int .i64 0) := Maps.atKey_of_not_has (by rw [h4, hf]; rfl) _
    rw [this] at hc
    cases hc
    rfl
  | some c' =>
    rw [h5 c' hf] at hc
    cases hc
    rfl

theorem MapOf.len {P : Program} {k e t : TypeId} {w : World} {b sz : Nat} {f : Value → Option Int} (h : MapOf P k e w b sz f) (ht : P.underlying t = some (.map k e)) (ty : TypeId) :
    (Builtin.len_ #[t] ty #[.map (some b)]).run P w = .ok (.int .i64 sz) w := by
  obtain ⟨D, h1, h2, h3⟩ := h
  rw [h1.len ht ty, h2]

def Upd (f : Value → Option Int) (key : Value) (c : Option Int) (f' : Value → Option Int) : Prop := f' key = c ∧ ∀ x, x ≠ key → f' x = f x
theorem upd_exists (f : Value → Option Int) (key : Value) (c : Option Int) : ∃ f', Upd f key c f' := by
  classical
  exact ⟨fun x => if x = key then c else f x, if_pos rfl, fun x hx => if_neg hx⟩

theorem mapOf_put {P : Program} {k e : TypeId} {w w' : World} {b sz : Nat} {f : Value → Option Int} (K : Keyed P k) {D : DataW Unit} (h1 : w.ownsMap P k (plainElem P e) b sz D) (h2 : Maps.size D = sz)
    (h3 : ∀ key kl, keyOf P k key = some kl → Maps.has D kl = (f key).isSome ∧ ∀ c, f key = some c → D.atKey kl (.lit (.int .i64 0)) = .lit (.int .i64 c)) {key : Value} {kl : Lit} (hk : keyOf P k key = some kl) {c : Int}
    (h4 : w'.ownsMap P k (plainElem P e) b (sz + 1) (D.put kl (.lit (.int .i64 c)))) : ∀ f', Upd f key (some c) f' → MapOf P k e w' b (if (f key).isSome then sz else sz + 1) f' := by
  intro f' hf'
  have hs : Maps.size (D.put kl (.lit (.int .i64 c))) = if (f key).isSome then sz else sz + 1 := by
    rw [Maps.size_put (h1.tidy K), (h3 key kl hk).1, h2]
  refine ⟨D.put kl (.lit (.int .i64 c)), ?_, hs, ?_⟩
  · have := owns_tight h4
    rw [hs] at this
    exact this
  · intro key' kl' hk'
    by_cases e1 : key' = key
    · subst e1
      have : kl' = kl := by rw [hk] at hk'; cases hk'; rfl
      subst this
      rw [hf'.1]
      refine ⟨by rw [Maps.has_put_same h1.isMap (K.key hk)]; rfl, ?_⟩
      intro c' hc'
      cases hc'
      exact Maps.atKey_put_same h1.isMap (K.key hk) _ _
    · have hne : kl' ≠ kl := fun e2 => e1 (K.inj hk' (by rw [e2]; exact hk))
      rw [hf'.2 _ e1, Maps.has_put_other hne, Maps.atKey_put_other hne]
      exact h3 key' kl' hk'

end Go.Proofs.YtemmhingmeinjaaGreatDoor
namespace Go.Proofs.YtemmhingmeinjaaGreatDoor
open Go.RowKit Go.Maps

theorem MapOf.put_runU {P : Program} {k e t : TypeId} {w : World} {b sz : Nat} {f : Value → Option Int} (h : MapOf P k e w b sz f) (K : Keyed P k) (ht : P.underlying t = some (.map k e)) (he : P.underlying e = some (.int .i64)) (hn : sz < maxLen)
    {key : Value} {kl : Lit} (hk : keyOf P k key = some kl) {c : Int} (hc : (Lit.int .i64 c).wf = true) :
    ∃ w', (Instr.mapUpdate t (.map (some b)) key (.int .i64 c)).run P w = .ok () w' ∧ (∀ f', Upd f key (some c) f' → MapOf P k e w' b (if (f key).isSome then sz else sz + 1) f') ∧ w.grownBy w' (some b) := by
  obtain ⟨D, h1, h2, h3⟩ := h
  obtain ⟨w', hrun, r1, r2⟩ := h1.update K ht hn hk (val := .int .i64 c) (d := .lit (.int .i64 c)) (ps := []) (plainElem_int he hc)
  exact ⟨w', hrun, mapOf_put K h1 h2 h3 hk r1, r2⟩
theorem setBlock_at {w : World} {b : Nat} (hb : b < w.heap.size) (o : Obj) : (ChangeMaps.setBlock w b o).heap[b]? = some o := by
  unfold ChangeMaps.setBlock
  simp [hb]
theorem setBlock_grown (w : World) (b : Nat) (o : Obj) : w.grownBy (ChangeMaps.setBlock w b o) (some b) := by
  refine ⟨rfl, rfl, rfl, by simp [ChangeMaps.setBlock], fun i _ hne => ?_⟩
  show (w.heap.setIfInBounds b o)[i]? = _
  rw [Array.getElem?_setIfInBounds_ne (fun q => hne (by rw [q]))]
theorem setBlock_two (w : World) (b : Nat) (o o' : Obj) : ChangeMaps.setBlock (ChangeMaps.setBlock w b o) b o' = ChangeMaps.setBlock w b o' := by
  unfold ChangeMaps.setBlock
  simp [Array.setIfInBounds_setIfInBounds]

theorem MapOf.entry {P : Program} {k e t : TypeId} {w : World} {b sz : Nat} {f : Value → Option Int} (h : MapOf P k e w b sz f) (KL : WideMaps.KeyLaw P k) (ht : P.underlying t = some (.map k e)) (he : P.underlying e = some (.int .i64)) (hz : ∀ u : World, (zeroValue e).run P u = .ok (.int .i64 0) u) (hn : sz < maxLen)
    {key : Value} {kl : Lit} (hk : keyOf P k key = some kl) :
    ∃ v0 st w1, (Instr.mapEntry t (.map (some b)) key).run P w = .ok (.tuple #[v0, goInt st]) w1 ∧ w.grownBy w1 (some b) ∧
      (Instr.lookup t (.map (some b)) key false).run P w1 = .ok (.int .i64 ((f key).getD 0)) w1 ∧
      ∀ c : Int, (Lit.int .i64 c).wf = true → ∃ w2, (Instr.entryStore t (.map (some b)) (goInt st) (.int .i64 c)).run P w1 = .ok () w2 ∧ (∀ f', Upd f key (some c) f' → MapOf P k e w2 b (if (f key).isSome then sz else sz + 1) f') ∧ w.grownBy w2 (some b) := by
  have K := Keyed.of_law KL
  have h0 := h
  obtain ⟨D, ⟨es, clock, hb, F, hs, hD⟩, h2, h3⟩ := h
  obtain ⟨v0, st, es1, clock1, hrun, hor, hst⟩ := WideElems.entry_then_store KL ht hz hb F hk
  have hlt : b < w.heap.size := h0.lt
  refine ⟨v0, st, ChangeMaps.setBlock w b (.map es1 clock1), hrun, setBlock_grown _ _ _, ?_, fun c hc => ?_⟩
  · rcases KL.find w hk es.toList F.keys with ⟨q1, q2⟩ | ⟨j, e0, q1, q2, q3⟩
    · have r1 : (Instr.mapEntry t (.map (some b)) key).run P w = .ok (.tuple #[.int .i64 0, goInt clock]) (ChangeMaps.setBlock w b (.map (es.push ⟨key, .int .i64 0, clock⟩) (clock + 1))) := by
        simp [Instr.mapEntry, run_underlying ht, MapKept.run_getObj_map hb, KL.check w false hk, q1, hz, MapKept.run_setObj_map _ hb, Result.andThen, ChangeMaps.setBlock]
      have r2 : (Instr.mapUpdate t (.map (some b)) key (.int .i64 0)).run P w = .ok () (ChangeMaps.setBlock w b (.map (es.push ⟨key, .int .i64 0, clock⟩) (clock + 1))) := by
        simp [Instr.mapUpdate, run_underlying ht, MapKept.run_getObj_map hb, KL.check w false hk, q1, MapKept.run_setObj_map _ hb, Result.andThen, ChangeMaps.setBlock]
      rw [r1] at hrun
      have ew : ChangeMaps.setBlock w b (.map es1 clock1) = ChangeMaps.setBlock w b (.map (es.push ⟨key, .int .i64 0, clock⟩) (clock + 1)) := by
        injection hrun with _ e2
        exact e2.symm
      obtain ⟨w', p1, p2, _⟩ := h0.put_runU K ht he hn hk (c := 0) (by decide)
      rw [r2] at p1
      have ew' : w' = ChangeMaps.setBlock w b (.map es1 clock1) := by
        injection p1 with _ e2
        rw [← e2, ew]
      obtain ⟨f', hf'⟩ := upd_exists f key (some 0)
      have M1 := p2 f' hf'
      rw [ew'] at M1
      have L1 := M1.look1 K ht he (hz _) hk
      rw [hf'.1] at L1
      have L0 := h0.look1 K ht he (hz _) hk
      have L00 : (Instr.lookup t (.map (some b)) key false).run P w = .ok (.int .i64 0) w := by
        simp [Instr.lookup, run_underlying ht, MapKept.run_getObj_map hb, KL.check w es.isEmpty hk, q1, hz, Result.andThen]
      rw [L00] at L0
      have e0 : (f key).getD 0 = 0 := by
        injection L0 with e1 _
        injection e1 with _ e3
        exact e3.symm
      rw [e0]
      exact L1
    · have hj : es[j]? = some e0 := by simpa using q2
      have hsame : es.modify j (fun e => { e with key := key }) = es := by
        apply Array.ext'
        rw [Array.toList_modify, ChangeMaps.modify_eq_set _ _ _ _ q2]
        have : ({ e0 with key := key } : MapEntry) = e0 := by rw [← q3]
        rw [this]
        exact WideElems.set_self _ _ _ q2
      have r1 : (Instr.mapEntry t (.map (some b)) key).run P w = .ok (.tuple #[e0.val, goInt e0.born]) (ChangeMaps.setBlock w b (.map es clock)) := by
        simp [Instr.mapEntry, run_underlying ht, MapKept.run_getObj_map hb, KL.check w false hk, q1, hj, q3, KL.stays w hk, hsame, MapKept.run_setObj_map _ hb, Result.andThen, ChangeMaps.setBlock]
      rw [r1] at hrun
      have ew : ChangeMaps.setBlock w b (.map es1 clock1) = ChangeMaps.setBlock w b (.map es clock) := by
        injection hrun with _ e2
        exact e2.symm
      rw [ew]
      exact (h0.same ((setBlock_at hlt _).trans hb.symm)).look1 K ht he (hz _) hk
  · obtain ⟨es', clock', p1, p2⟩ := hst (ChangeMaps.setBlock w b (.map es1 clock1)) (.int .i64 c) (setBlock_at hlt _)
    rw [setBlock_two] at p1
    obtain ⟨w', q1, q2, q3⟩ := h0.put_runU K ht he hn hk hc
    rw [p2] at q1
    have ew' : w' = ChangeMaps.setBlock w b (.map es' clock') := by
      injection q1 with _ e2
      exact e2.symm
    rw [ew'] at q2 q3
    exact ⟨_, p1, q2, q3⟩
end Go.Proofs.YtemmhingmeinjaaGreatDoor
namespace Go.Proofs.YtemmhingmeinjaaGreatDoor
open Go.RowKit Go.Maps
open Wo (Wd)

theorem Tryz.laidOutU : laidOutB Tryz.prog = true := by kernel_rfl
theorem kKeyL : WideMaps.KeyLaw Tryz.prog 123 := (deep_law_gate Tryz.laidOutU (of_decide_eq_true (by kernel_rfl)) (of_decide_eq_true (by kernel_rfl)) (by kernel_rfl) (by kernel_rfl))
theorem kKey : Keyed Tryz.prog 123 := Keyed.of_law kKeyL
abbrev kv (p : Nat) (m : List UInt8) : Value := .agg #[.int .i64 p, .string (tx m)]
theorem ulits_int (d : Nat) {n : Nat} (h : n < 9223372036854775808) : Tryz.prog.keyLits (d + 1) 3 [.int .i64 (n : Int)] = some [.int .i64 (n : Int)] := by
  have hw : (Lit.int .i64 (n : Int)).wf = true := WalkArith.wf_i64 (by omega)
  unfold Program.keyLits
  simp [Tryz.underlying3, hw]
theorem ulits_str (d : Nat) (s : ByteArray) (hs : s.size ≤ maxLen) : ∃ b, Tryz.prog.keyLits (d + 1) 9 [.string s] = some [b] := by
  unfold Program.keyLits
  simp [Tryz.underlying9, hs]
theorem Tryz.utypes_pos : ∃ d, Tryz.prog.types.size = d + 1 := ⟨Tryz.prog.types.size - 1, by have : 0 < Tryz.prog.types.size := of_decide_eq_true (by kernel_rfl); omega⟩
theorem Tryz.ucells_int : Tryz.prog.cellsOf 3 = 1 := by kernel_rfl
theorem Tryz.ucells_str : Tryz.prog.cellsOf 9 = 1 := by kernel_rfl
theorem Tryz.ucells_key : Tryz.prog.cellsOf 123 = 2 := by kernel_rfl
theorem ucells_agg2 (a b : Value) : (Value.agg #[a, b]).cells.toList = [a, b] := rfl
theorem key_rule {p : Nat} {m : List UInt8} (hp : p < 9223372036854775808) (hm : m.length ≤ 1048576) : ∃ kl, keyOf Tryz.prog 123 (kv p m) = some kl := by
  have hf : (kv p m).formed Tryz.prog 123 = true := by kernel_rfl
  have hk : Tryz.prog.keyType 123 = true := by kernel_rfl
  obtain ⟨d, hd⟩ := Tryz.utypes_pos
  have h1 := ulits_int d hp
  obtain ⟨b, h2⟩ := ulits_str d (tx m) (by rw [tx_size]; unfold maxLen; omega)
  unfold keyOf
  simp only [Tryz.underlying123, hf, hk, Bool.and_self, if_true]
  unfold Program.keyLits
  simp [Tryz.underlying123, ucells_agg2, Tryz.ucells_key, Tryz.ucells_int, Tryz.ucells_str, hd, h1, h2]
theorem kv_inj {p p' : Nat} {m m' : List UInt8} (h : kv p m = kv p' m') : p = p' ∧ m = m' := by
  simp only [Value.agg.injEq, Array.mk.injEq, List.cons.injEq, Value.int.injEq, Value.string.injEq, true_and, and_true] at h
  refine ⟨by omega, ?_⟩
  have := congrArg (fun b : ByteArray => b.data.toList) h.2
  simpa using this
def KeysAt (w : World) (mb : Nat) (ks : List (Nat × List UInt8)) : Prop := ∃ f, MapOf Tryz.prog 123 3 w mb ks.length f ∧ ∀ p m, (((p, m) ∈ ks → f (kv p m) = some 1) ∧ ((p, m) ∉ ks → f (kv p m) = none))
theorem KeysAt.same {w w' : World} {mb : Nat} {ks : List (Nat × List UInt8)} (h : KeysAt w mb ks) (hb : w'.heap[mb]? = w.heap[mb]?) : KeysAt w' mb ks := by
  obtain ⟨f, h1, h2⟩ := h
  exact ⟨f, h1.same hb, h2⟩
theorem KeysAt.lt {w : World} {mb : Nat} {ks : List (Nat × List UInt8)} (h : KeysAt w mb ks) : mb < w.heap.size := by
  obtain ⟨f, h1, h2⟩ := h
  exact h1.lt
theorem KeysAt.new (w : World) : KeysAt (w.alloc (.map #[] 0)) w.heap.size [] := ⟨fun _ => none, MapOf.new _ _ _ w, fun p m => ⟨(fun h => absurd h (by simp)), fun _ => rfl⟩⟩
theorem uzero_int (w : World) : (zeroValue 3).run Tryz.prog w = .ok (.int .i64 0) w := by kernel_rfl

abbrev kob (p : Nat) (m : List UInt8) : Obj := .cells #[.int .i64 p, .string (tx m)] 123

set_option maxHeartbeats 1000000 in
theorem uadd {w : World} {mb : Nat} {ks : List (Nat × List UInt8)} (hK : KeysAt w mb ks) (x : Ru.Rl) (v : Value) (hp : x.prio ≤ 2147483647) (hm : x.mat.length ≤ 1048576) (hks : ks.length ≤ 1048576) :
    Calls Tryz.prog 33 #[.map (some mb), rv x v] w fun en w' => en = .returned (.bool (decide ((x.prio, x.mat) ∉ ks))) ∧ ((x.prio, x.mat) ∉ ks → KeysAt w' mb (ks ++ [(x.prio, x.mat)])) ∧ w.grownBy w' (some mb) := by
  obtain ⟨f, h1, h2⟩ := hK
  obtain ⟨kl, hkl⟩ := key_rule (p := x.prio) (m := x.mat) (by omega) hm
  have hlt := h1.lt
  obtain ⟨W, hW⟩ : ∃ W, W = ((w.alloc (rob x.prio (tx x.mat) x.kind v)).alloc (kob x.prio x.mat)).drew := ⟨_, rfl⟩
  have hWb : W.heap[mb]? = w.heap[mb]? := by
    rw [hW]
    show ((w.alloc (rob x.prio (tx x.mat) x.kind v)).alloc (kob x.prio x.mat)).heap[mb]? = _
    rw [heap_old _ _ (by simp; omega), heap_old _ _ hlt]
  have M : MapOf Tryz.prog 123 3 W mb ks.length f := h1.same hWb
  have hl0 := M.look1 kKey Tryz.underlying85 Tryz.underlying3 (uzero_int _) hkl
  obtain ⟨v0, st, w1, r1, g1, r2, r3⟩ := M.entry kKeyL Tryz.underlying85 Tryz.underlying3 (fun u => uzero_int u) (by unfold maxLen; omega) hkl
  have hgW : w.grownBy W (some mb) := by rw [hW]; exact ⟨rfl, rfl, rfl, by simp [World.drew]; omega, fun i hi _ => by show ((w.alloc (rob x.prio (tx x.mat) x.kind v)).alloc (kob x.prio x.mat)).heap[i]? = _; rw [heap_old _ _ (by simp; omega), heap_old _ _ hi]⟩
  have hkb : W.heap[w.heap.size + 1]? = some (kob x.prio x.mat) := by rw [hW]; exact new_1 _ _ _
  have hkb1 := block_grow hkb g1 (by omega)
  have hcell : ∀ u : World, u.heap[w.heap.size + 1]? = some (kob x.prio x.mat) → u.cell? ⟨w.heap.size + 1, 0, none⟩ = some (.int .i64 x.prio) ∧ u.cell? ⟨w.heap.size + 1, 1, none⟩ = some (.string (tx x.mat)) := fun u hu => ⟨by rw [cell_at hu]; rfl, by rw [cell_at hu]; rfl⟩
  by_cases hin : (x.prio, x.mat) ∈ ks
  · have hf := (h2 x.prio x.mat).1 hin
    rw [hf] at hl0 r2
    simp only [Option.getD_some] at hl0 r2
    obtain ⟨w2, s1, s2, s3⟩ := r3 2 (by decide)
    obtain ⟨f', hf'⟩ := upd_exists f (kv x.prio x.mat) (some 2)
    have M2 := s2 f' hf'
    have hl2 := M2.look1 kKey Tryz.underlying85 Tryz.underlying3 (uzero_int _) hkl
    rw [hf'.1] at hl2
    simp only [Option.getD_some] at hl2
    have hkb2 := block_grow hkb s3 (by omega)
    obtain ⟨a0, a1⟩ := hcell _ hkb
    obtain ⟨b0, b1⟩ := hcell _ hkb1
    obtain ⟨c0, c1⟩ := hcell _ hkb2
    have hd : decide ((x.prio, x.mat) ∉ ks) = false := by simp [hin]
    rw [hd]
    have HR : Hid (((x.prio, x.mat) ∉ ks → KeysAt w2 mb (ks ++ [(x.prio, x.mat)])) ∧ w.grownBy w2 (some mb)) := ⟨fun q => absurd hin q, grown_two hgW s3⟩
    have s1' : (Instr.entryStore 85 (.map (some mb)) (.int .i64 st) (.int .i64 2)).run Tryz.prog w1 = .ok () w2 := s1
    clear h1 h2 hkl hWb M r3 g1 hgW hkb hkb1 hcell hin hf s2 s3 hf' M2 hkb2 hd hks hp hm
    subst hW
    go_enter Tryz.func33, Tryz.ntmps33
    go_wp2_with fail
    go_region
    go_wp2
    go_ret
    exact ⟨rfl, HR.out⟩
  · have hf := (h2 x.prio x.mat).2 hin
    rw [hf] at hl0 r2
    simp only [Option.getD_none] at hl0 r2
    obtain ⟨w2, s1, s2, s3⟩ := r3 1 (by decide)
    obtain ⟨f', hf'⟩ := upd_exists f (kv x.prio x.mat) (some 1)
    have M2 := s2 f' hf'
    have hl2 := M2.look1 kKey Tryz.underlying85 Tryz.underlying3 (uzero_int _) hkl
    rw [hf'.1] at hl2
    simp only [Option.getD_some] at hl2
    have hkb2 := block_grow hkb s3 (by omega)
    obtain ⟨a0, a1⟩ := hcell _ hkb
    obtain ⟨b0, b1⟩ := hcell _ hkb1
    obtain ⟨c0, c1⟩ := hcell _ hkb2
    have hd : decide ((x.prio, x.mat) ∉ ks) = true := by simp [hin]
    rw [hd]
    have HR : Hid (((x.prio, x.mat) ∉ ks → KeysAt w2 mb (ks ++ [(x.prio, x.mat)])) ∧ w.grownBy w2 (some mb)) := by
      refine ⟨fun _ => ⟨f', ?_, fun p m => ⟨fun q => ?_, fun q => ?_⟩⟩, grown_two hgW s3⟩
      · rw [hf] at M2
        simpa using M2
      · by_cases e : (p, m) = (x.prio, x.mat)
        · obtain ⟨rfl, rfl⟩ := Prod.mk.inj e
          exact hf'.1
        · rw [hf'.2 _ (fun h => e (by obtain ⟨a, b⟩ := kv_inj h; rw [a, b]))]
          refine (h2 p m).1 ?_
          rcases List.mem_append.1 q with q | q
          · exact q
          · exact absurd (List.mem_singleton.1 q) e
      · have hne : (p, m) ≠ (x.prio, x.mat) := fun e => q (List.mem_append.2 (Or.inr (by rw [e]; simp)))
        rw [hf'.2 _ (fun h => hne (by obtain ⟨a, b⟩ := kv_inj h; rw [a, b]))]
        exact (h2 p m).2 (fun h => q (List.mem_append.2 (Or.inl h)))
    have s1' : (Instr.entryStore 85 (.map (some mb)) (.int .i64 st) (.int .i64 1)).run Tryz.prog w1 = .ok () w2 := s1
    clear h1 h2 hkl hWb M r3 g1 hgW hkb hkb1 hcell hin hf s2 s3 hf' M2 hkb2 hd hks hp hm
    subst hW
    go_enter Tryz.func33, Tryz.ntmps33
    go_wp2_with fail
    go_region
    go_wp2
    go_ret
    exact ⟨rfl, HR.out⟩
end Go.Proofs.YtemmhingmeinjaaGreatDoor
namespace Go.Proofs.YtemmhingmeinjaaGreatDoor
open Go.RowKit
open Wo (Wd)

theorem ucaught_not (r l f : Addr) (w : World) :
    CallsD Tryz.prog 70 #[.pointer (some r), .pointer (some l), .pointer (some f)] .returning w fun x u' w' => x = .returned (.tuple #[]) ∧ u' = .returning ∧ w' = w := by
  refine callsD_of_wpS Tryz.func70 rfl fun c₀ cs hu => ?_
  apply wpS_seq
  apply wpS_region
  simp [wpOpsS, go_sem, recoverD, hu, Tryz.ntmps70, Exit.thenS]
  refine wpS_cond (t := false) (by simp [Act.eval, Array.replicate]) ?_
  simp only [Bool.false_eq_true, if_false]
  refine wpS_of_wp (wp_skip ?_)
  cases c₀
  simp_all [bodyPostS, results, Tryz.results70]

abbrev fob (a b c : Value) : Obj := .cells #[a, b, c] 97

theorem ucaught (N rb : Nat) (ft : Ru.Ft) (x y0 y1 y2 : Value) (pv : Int) (w : World) (hr : FaultAt w rb ft) (h0 : w.heap[N]? = some (.cells #[x] 36 (0, 0))) (h1 : w.heap[N + 1]? = some (fob y0 y1 y2)) :
    CallsD Tryz.prog 70 #[.pointer (some ⟨rb, 0, none⟩), .pointer (some ⟨N, 0, none⟩), .pointer (some ⟨N + 1, 0, none⟩)] (.panicking (pan pv)) w fun e u' w' =>
      e = .returned (.tuple #[]) ∧ u' = .panicking [{ v := .iface 28 (.int .i64 pv), recovered := true }] ∧
      w' = (((w.setCell ⟨N, 0, none⟩ (.slice none 0 0)).setCell ⟨N + 1, 0, none⟩ (.int .i64 ft.1)).setCell ⟨N + 1, 1, none⟩ (.int .i64 ft.2.1)).setCell ⟨N + 1, 2, none⟩ (.int .i64 ft.2.2) := by
  obtain ⟨c0, c1, c2, c3, c4, hc⟩ := hr.ex
  have r5 := cell_at (o := 5) hc
  have r6 := cell_at (o := 6) hc
  have r7 := cell_at (o := 7) hc
  simp only [List.getElem?_toArray, List.getElem?_cons_succ, List.getElem?_cons_zero] at r5 r6 r7
  have a0 := cell_at (o := 0) h0
  have a1 := cell_at (o := 0) h1
  have a2 := cell_at (o := 1) h1
  have a3 := cell_at (o := 2) h1
  have f0 := free_of (o := 0) h0
  have f1 := free_of (o := 0) h1
  have f2 := free_of (o := 1) h1
  have f3 := free_of (o := 2) h1
  refine callsD_of_wpS Tryz.func70 rfl fun c₀ cs hu => ?_
  apply wpS_seq
  apply wpS_region
  simp [wpOpsS, go_sem, recoverD, hu, Tryz.ntmps70, Exit.thenS]
  refine wpS_cond (t := true) (by simp [Act.eval, Array.replicate]) ?_
  simp only [if_true]
  apply wpS_region
  simp [wpOpsS, go_sem, r5, r6, r7, a0, a1, a2, a3, f0, f1, f2, f3, bodyPostS, results, Tryz.results70]

end Go.Proofs.YtemmhingmeinjaaGreatDoor
namespace Go.Proofs.YtemmhingmeinjaaGreatDoor
open Go.RowKit
open Wo (Wd)

structure LsAt (w : World) (g : Nat) (ls : List (List Wd)) (G C : Nat → Nat) : Prop where
  old : g < w.heap.size
  line : ∀ (i : Nat) (x : List Wd), ls[i]? = some x → w.cell? ⟨g, i, none⟩ = some (.slice (some ⟨G i, 0, none⟩) x.length (C i))
  word : ∀ (i : Nat) (x : List Wd), ls[i]? = some x → LineAt w (G i) x
  cap : ∀ (i : Nat) (x : List Wd), ls[i]? = some x → x.length ≤ C i ∧ C i ≤ maxLen
  small : ∀ x ∈ ls, 0 < x.length ∧ x.length ≤ 1048576 ∧ ∀ y ∈ x, y.1.length ≤ 1048576 ∧ y.2.2 ≤ 1048577
theorem LsAt.below {w w' : World} {g : Nat} {ls : List (List Wd)} {G C : Nat → Nat} (h : LsAt w g ls G C) (hb : Below w.heap.size w w') : LsAt w' g ls G C := {
  old := Nat.lt_of_lt_of_le h.old hb.size
  line := fun i x hx => by rw [hb.cell (by exact h.old)]; exact h.line i x hx
  word := fun i x hx => (h.word i x hx).kept (hb.block _ (h.word i x hx).1) hb.size
  cap := h.cap
  small := h.small }

def flatR (ps : List (Ru.Rl × Value)) : List Value := ps.flatMap fun q => [.int .i64 q.1.prio, .string (tx q.1.mat), .int .i64 q.1.kind, q.2]
theorem flatR_snoc (ps : List (Ru.Rl × Value)) (q : Ru.Rl × Value) : flatR (ps ++ [q]) = flatR ps ++ [.int .i64 q.1.prio, .string (tx q.1.mat), .int .i64 q.1.kind, q.2] := by simp [flatR]
theorem flatR_at {ps : List (Ru.Rl × Value)} {i : Nat} {q : Ru.Rl × Value} (h : ps[i]? = some q) : (flatR ps)[i * 4]? = some (.int .i64 q.1.prio) ∧ (flatR ps)[i * 4 + 1]? = some (.string (tx q.1.mat)) ∧ (flatR ps)[i * 4 + 2]? = some (.int .i64 q.1.kind) ∧ (flatR ps)[i * 4 + 3]? = some q.2 := by
  induction ps generalizing i with
  | nil => simp at h
  | cons p t ih =>
    have e : flatR (p :: t) = .int .i64 p.1.prio :: .string (tx p.1.mat) :: .int .i64 p.1.kind :: p.2 :: flatR t := rfl
    cases i with
    | zero =>
      simp only [List.getElem?_cons_zero, Option.some.injEq] at h
      subst h
      rw [e]
      exact ⟨rfl, rfl, rfl, rfl⟩
    | succ i =>
      obtain ⟨q1, q2, q3, q4⟩ := ih (by simpa using h)
      rw [e, show (i + 1) * 4 = i * 4 + 4 by omega]
      exact ⟨by simpa using q1, by simpa [Nat.add_assoc] using q2, by simpa [Nat.add_assoc] using q3, by simpa [Nat.add_assoc] using q4⟩
structure RsAt (w : World) (B : Nat) (v : Value) (ps : List (Ru.Rl × Value)) : Prop where
  own : w.ownsRow B 51 4 v ps.length (flatR ps)
  ports : ∀ q ∈ ps, PortsV w B q.2 q.1.ports
theorem RsAt.nil (w : World) (B : Nat) : RsAt w B (.slice none 0 0) [] := ⟨World.ownsRow_nil _ _ _ _, fun q h => absurd h (by simp)⟩
theorem RsAt.kept {w w' : World} {B : Nat} {v : Value} {ps : List (Ru.Rl × Value)} (h : RsAt w B v ps) {row : Option Nat} (hg : w.grownBy w' row) (hn : ∀ b, row = some b → ∀ cs T fr, w.heap[b]? = some (.cells cs T fr) → T ≠ 51 ∧ T ≠ 9) (_hm : ∀ b, row = some b → b < w.heap.size) : RsAt w' B v ps := by
  have hno : v.ownBlock = none ∨ v.ownBlock ≠ row := by
    rcases hv : v.ownBlock with _ | k
    · exact Or.inl rfl
    · refine Or.inr (fun q => ?_)
      rcases h.own.2 with ⟨rfl, _⟩ | ⟨b, cap, cur, rfl, _, hb, _⟩
      · cases hv
      · have e : b = k := by simpa [Value.ownBlock] using hv
        subst e
        exact (hn b q.symm _ _ _ hb).1 rfl
  refine ⟨h.own.kept hg hno, fun q hq => (h.ports q hq).kept fun b cs hb _ => hg.block b (lt_of_block hb) (fun e => (hn b e.symm _ _ _ hb).2 rfl)⟩
theorem RsAt.form {w : World} {B : Nat} {v : Value} {ps : List (Ru.Rl × Value)} (h : RsAt w B v ps) : ∃ ao cap, v = .slice ao ps.length cap := own_form h.own
theorem RsAt.below {w w' : World} {B : Nat} {v : Value} {ps : List (Ru.Rl × Value)} (h : RsAt w B v ps) (hb : Below w.heap.size w w') : RsAt w' B v ps := h.kept (grown_of_below none hb) (fun b e => by cases e) (fun b e => by cases e)
theorem RsAt.snoc {w w' : World} {B : Nat} {v v' : Value} {ps : List (Ru.Rl × Value)} {q : Ru.Rl × Value} (h : RsAt w B v ps) (hq : PortsV w B q.2 q.1.ports) (ho : w'.ownsRow B 51 4 v' (ps.length + 1) (flatR ps ++ [.int .i64 q.1.prio, .string (tx q.1.mat), .int .i64 q.1.kind, q.2])) (hg : w.grownBy w' v.ownBlock) : RsAt w' B v' (ps ++ [q]) := by
  have hk : ∀ {u : Value} {zs}, PortsV w B u zs → PortsV w' B u zs := fun hp => hp.kept fun b cs hb _ => hg.block b (lt_of_block hb) (fun e => own_ne h.own hb (by decide) e.symm)
  refine ⟨by rw [flatR_snoc, List.length_append, List.length_singleton]; exact ho, fun p hp => ?_⟩
  rcases List.mem_append.1 hp with hp | hp
  · exact hk (h.ports p hp)
  · rw [List.mem_singleton.1 hp]; exact hk hq

abbrev keyOfR (q : Ru.Rl × Value) : Nat × List UInt8 := (q.1.prio, q.1.mat)
structure RsInv (w : World) (width : Nat) (ls : List (List Wd)) (k : Nat) (v : Value) (ps : List (Ru.Rl × Value)) (wr : World) : Prop where
  l : wr.heap[w.heap.size]? = some (.cells #[v] 36 (0, 0))
  f : wr.heap[w.heap.size + 1]? = some (fob (.int .i64 0) (.int .i64 0) (.int .i64 0))
  r : RdB wr (w.heap.size + 2) width
  keys : KeysAt wr (w.heap.size + 3) (ps.map keyOfR)
  rows : RsAt wr w.heap.size v ps
  below : Below w.heap.size w wr
  len : ps.length = k
  few : k ≤ 4096
  le : k ≤ ls.length
  all : Ru.rds width ls [] = Ru.rds width (ls.drop k) (ps.map Prod.fst)
theorem any_key (ps : List (Ru.Rl × Value)) (x : Ru.Rl) : (ps.map Prod.fst).any (fun y => Ru.same y x) = decide ((x.prio, x.mat) ∈ ps.map keyOfR) := by
  rw [Bool.eq_iff_iff]
  simp only [List.any_eq_true, List.mem_map, decide_eq_true_eq, Ru.same]
  constructor
  · rintro ⟨y, ⟨q, hq, rfl⟩, h1, h2⟩
    exact ⟨q, hq, by rw [← h1, ← h2]⟩
  · rintro ⟨q, hq, h⟩
    simp only [Prod.mk.injEq] at h
    exact ⟨q.1, ⟨q, hq, rfl⟩, h.1, h.2⟩
section
variable {w : World} {width : Nat} {ls : List (List Wd)} {k : Nat} {v : Value} {ps : List (Ru.Rl × Value)} {wr : World}
theorem RsInv.drop (_h : RsInv w width ls k v ps wr) {x : List Wd} (hx : ls[k]? = some x) : ls.drop k = x :: ls.drop (k + 1) := by
  have hlt := (List.getElem?_eq_some_iff.1 hx).1
  rw [List.drop_eq_getElem_cons hlt]
  rw [List.getElem?_eq_getElem hlt] at hx
  simp only [Option.some.injEq] at hx
  rw [hx]
theorem RsInv.faultR (h : RsInv w width ls k v ps wr) {x : List Wd} (hx : ls[k]? = some x) {f : Ru.Ft} (hf : Ru.rul width x = .error f) : Ru.rds width ls [] = .error f := by
  rw [h.all, h.drop hx, Ru.rds, hf]
theorem RsInv.faultS (h : RsInv w width ls k v ps wr) {x : List Wd} (hx : ls[k]? = some x) {y : Ru.Rl} (hy : Ru.rul width x = .ok y) (hin : decide ((y.prio, y.mat) ∉ ps.map keyOfR) = false) : Ru.rds width ls [] = .error (Ru.ft (Ru.nx (Ru.endW x) x) 52) := by
  have : (ps.map Prod.fst).any (fun z => Ru.same z y) = true := by rw [any_key]; simpa using hin
  rw [h.all, h.drop hx, Ru.rds, hy]
  simp only [this, if_true]
theorem RsInv.faultM (h : RsInv w width ls k v ps wr) {x : List Wd} (hx : ls[k]? = some x) {y : Ru.Rl} (hy : Ru.rul width x = .ok y) (hin : decide ((y.prio, y.mat) ∉ ps.map keyOfR) = true) (hk : 4096 ≤ k) : Ru.rds width ls [] = .error (Ru.ft (Ru.nx (Ru.endW x) x) 3) := by
  have : (ps.map Prod.fst).any (fun z => Ru.same z y) = false := by rw [any_key]; simpa using hin
  rw [h.all, h.drop hx, Ru.rds, hy]
  simp only [this, Bool.false_eq_true, if_false, List.length_map]
  rw [if_pos (by rw [h.len]; exact hk)]
theorem RsInv.onward (h : RsInv w width ls k v ps wr) {x : List Wd} (hx : ls[k]? = some x) {y : Ru.Rl} (hy : Ru.rul width x = .ok y) (hin : decide ((y.prio, y.mat) ∉ ps.map keyOfR) = true) (hk : k < 4096) (u : Value) : Ru.rds width ls [] = Ru.rds width (ls.drop (k + 1)) ((ps ++ [(y, u)]).map Prod.fst) := by
  have : (ps.map Prod.fst).any (fun z => Ru.same z y) = false := by rw [any_key]; simpa using hin
  rw [h.all, h.drop hx, Ru.rds, hy]
  simp only [this, Bool.false_eq_true, if_false, List.length_map]
  rw [if_neg (by rw [h.len]; omega)]
  simp
end
def ReadPost (w : World) (width : Nat) (ls : List (List Wd)) (en : Ending) (w' : World) : Prop :=
  Below w.heap.size w w' ∧ ((∃ f : Ru.Ft, Ru.rds width ls [] = .error f ∧ en = .returned (.tuple #[.slice none 0 0, .agg #[.int .i64 f.1, .int .i64 f.2.1, .int .i64 f.2.2]])) ∨
    (∃ v ps, Ru.rds width ls [] = .ok (ps.map Prod.fst) ∧ en = .returned (.tuple #[v, .agg #[.int .i64 0, .int .i64 0, .int .i64 0]]) ∧ RsAt w' w.heap.size v ps))

abbrev udef (N : Nat) : Deferred := { target := Target.fn (Fn.func 70) #[.pointer (some ⟨N + 1 + 1, 0, none⟩), .pointer (some ⟨N, 0, none⟩), .pointer (some ⟨N + 1, 0, none⟩)], args := #[] }
theorem uleave {w w' : World} {width : Nat} {ls : List (List Wd)} {tmps : Array Value} {v : Value} {f : Ru.Ft} {q : Int} (h4 : tmps[4]? = some (.pointer (some ⟨w.heap.size, 0, none⟩))) (h5 : tmps[5]? = some (.pointer (some ⟨w.heap.size + 1, 0, none⟩)))
    (hb : Below w.heap.size w w') (hl : w'.heap[w.heap.size]? = some (.cells #[v] 36 (0, 0))) (hf : w'.heap[w.heap.size + 1]? = some (fob (.int .i64 0) (.int .i64 0) (.int .i64 0))) (hF : FaultAt w' (w.heap.size + 2) f) (hr : Ru.rds width ls [] = .error f) :
    Leaves Tryz.prog Tryz.f39 tmps (fun en w' => ReadPost w width ls en w') [udef w.heap.size] (.panicking (pan q)) w' := by
  refine leaves_cons (f := 70) (args := #[.pointer (some ⟨w.heap.size + 2, 0, none⟩), .pointer (some ⟨w.heap.size, 0, none⟩), .pointer (some ⟨w.heap.size + 1, 0, none⟩)]) (by simp) (by simp [go_sem]) ?_
  refine (ucaught w.heap.size (w.heap.size + 2) f _ _ _ _ q w' hF hl hf).mono ?_
  rintro e u' w'' ⟨rfl, rfl, rfl⟩
  have k0 := block_other (o := 2) (.int .i64 f.2.2) (block_other (o := 1) (.int .i64 f.2.1) (block_other (o := 0) (.int .i64 f.1) (block_set (o := 0) (.slice none 0 0) hl) (g := w.heap.size + 1) (by omega)) (g := w.heap.size + 1) (by omega)) (g := w.heap.size + 1) (by omega)
  have k1 := block_set (o := 2) (.int .i64 f.2.2) (block_set (o := 1) (.int .i64 f.2.1) (block_set (o := 0) (.int .i64 f.1) (block_other (o := 0) (.slice none 0 0) hf (g := w.heap.size) (by omega))))
  obtain ⟨W, hW⟩ : ∃ W, W = (((w'.setCell ⟨w.heap.size, 0, none⟩ (.slice none 0 0)).setCell ⟨w.heap.size + 1, 0, none⟩ (.int .i64 f.1)).setCell ⟨w.heap.size + 1, 1, none⟩ (.int .i64 f.2.1)).setCell ⟨w.heap.size + 1, 2, none⟩ (.int .i64 f.2.2) := ⟨_, rfl⟩
  have hbW : Below w.heap.size w W := by rw [hW]; exact (((hb.setCell (by simp) _).setCell (by simp) _).setCell (by simp) _).setCell (by simp) _
  rw [← hW] at k0 k1 ⊢
  have q0 : W.cell? ⟨w.heap.size, 0, none⟩ = some (.slice none 0 0) := by rw [cell_at k0]; rfl
  have q1 : W.cell? ⟨w.heap.size + 1, 0, none⟩ = some (.int .i64 f.1) := by rw [cell_at k1]; rfl
  have q2 : W.cell? ⟨w.heap.size + 1, 1, none⟩ = some (.int .i64 f.2.1) := by rw [cell_at k1]; rfl
  have q3 : W.cell? ⟨w.heap.size + 1, 2, none⟩ = some (.int .i64 f.2.2) := by rw [cell_at k1]; rfl
  refine ⟨.tuple #[.slice none 0 0, .agg #[.int .i64 f.1, .int .i64 f.2.1, .int .i64 f.2.2]], ?_, hbW, Or.inl ⟨f, hr, rfl⟩⟩
  simp [results, Tryz.results39, go_sem, h4, h5, q0, q1, q2, q3]
end Go.Proofs.YtemmhingmeinjaaGreatDoor
