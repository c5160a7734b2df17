/-
  The document's Order: its row so far.
  The law RulesAny: a table's order hangs on no order of its rules.
-/
import Derived.Laws.AppendOwnNone
import Derived.Shelf.RegionOpenPlain
import Derived.Test.YthkhlhghbdbopaaGreatDoorUStWAnd
import Derived.Test.YthkhlhghbdbopaaGreatDoorUPrintAnd
namespace Go.Proofs.YthkhlhghbdbopaaGreatDoor
open Go.RowKit

/-- The cells of rules. -/
def flatV (rs : List (Raw × Value)) : List Value := rs.flatMap fun q => [.int .i64 q.1.prio, .string (tx q.1.mat), .int .i64 q.1.kind, q.2]
theorem flatV_len (rs : List (Raw × Value)) : (flatV rs).length = rs.length * 4 := by
  induction rs with
  | nil => rfl
  | cons q r ih =>
    show (_ :: _ :: _ :: _ :: flatV r).length = _
    simp only [List.length_cons, ih]; omega
theorem flatV_get {rs : List (Raw × Value)} : ∀ {i : Nat} {q : Raw × Value}, rs[i]? = some q → (flatV rs)[i * 4]? = some (.int .i64 q.1.prio) ∧ (flatV rs)[i * 4 + 1]? = some (.string (tx q.1.mat)) ∧ (flatV rs)[i * 4 + 2]? = some (.int .i64 q.1.kind) ∧ (flatV rs)[i * 4 + 3]? = some q.2 := by
  induction rs with
  | nil => intro i q h; simp at h
  | cons a r ih =>
    intro i q h
    have e : flatV (a :: r) = .int .i64 a.1.prio :: .string (tx a.1.mat) :: .int .i64 a.1.kind :: a.2 :: flatV r := rfl
    rw [e]
    cases i with
    | zero =>
      have : a = q := by simpa using h
      subst this
      exact ⟨rfl, rfl, rfl, rfl⟩
    | succ i =>
      obtain ⟨h0, h1, h2, h3⟩ := ih (by simpa using h)
      rw [show (i + 1) * 4 = i * 4 + 1 + 1 + 1 + 1 by omega]
      exact ⟨by simpa using h0, by simpa using h1, by simpa using h2, by simpa using h3⟩
theorem flatV_one {rs : List (Raw × Value)} (h : ∀ q ∈ rs, ∃ ao n c, q.2 = .slice ao n c) : ∀ u ∈ flatV rs, u.oneCell' = true := by
  intro u hu
  obtain ⟨q, hq, hu⟩ := List.mem_flatMap.1 hu
  obtain ⟨ao, n, c, e⟩ := h q hq
  simp only [List.mem_cons, List.not_mem_nil, or_false] at hu
  rcases hu with rfl | rfl | rfl | rfl
  · rfl
  · rfl
  · rfl
  · rw [e]; rfl
theorem flatV_append (a b : List (Raw × Value)) : flatV (a ++ b) = flatV a ++ flatV b := by simp [flatV]
/-- A row of rules that was built is one to be read. -/
theorem own_view {w : World} {B : Nat} {v : Value} {rs : List (Raw × Value)} (h : w.ownsRow B 30 4 v rs.length (flatV rs)) (hne : rs ≠ []) : ∃ g cap, v = .slice (some ⟨g, 0, none⟩) rs.length cap ∧ g < w.heap.size ∧ B ≤ g ∧ ∀ (j : Nat) (u : Value), (flatV rs)[j]? = some u → w.cell? ⟨g, j, none⟩ = some u := by
  rcases h.2 with ⟨_, h0⟩ | ⟨g, cap, cur, e, hB, hh, hn, _, _, ht⟩
  · exact absurd (List.length_eq_zero_iff.1 h0) hne
  · refine ⟨g, cap, e, lt_of_block hh, hB, fun j u hj => ?_⟩
    rw [cell_at hh, ← Array.getElem?_toList]
    have hjl := (List.getElem?_eq_some_iff.1 hj).1
    rw [← ht, List.getElem?_take] at hj
    split at hj
    · exact hj
    · cases hj
theorem own_raw {w : World} {g : Nat} {rs : List (Raw × Value)} (hg : g < w.heap.size) (h : ∀ (j : Nat) (u : Value), (flatV rs)[j]? = some u → w.cell? ⟨g, j, none⟩ = some u) (hp : ∀ q ∈ rs, Txs w q.2 q.1.ports ∧ ∀ p ∈ q.1.ports, p.length ≤ maxLen) : RawView w g 0 rs :=
  ⟨hg, fun i q hq => by
    obtain ⟨h0, h1, h2, h3⟩ := flatV_get hq
    rw [Nat.zero_add]
    exact ⟨h _ _ h0, h _ _ h1, h _ _ h2, h _ _ h3⟩, hp⟩

theorem wpList_append_srcR {P : Program} (w : World) {ops : Array Oper} {rest : List Oper} {o : Oper} {a : Act} {Q : Exit → Act → World → Prop} (hgd : o.guard = none) (s x : Operand) (t : TypeId)
    (ho : o.op = .call { callee := .builtin .append, args := #[s, x], argTypes := #[t, t] })
    (base : Nat) (e : TypeId) (i : TypeInfo) (z : Value) (size bytes : Nat) (ht : P.underlying t = some (.slice e)) (hi : P.info? e = some i) (hz : i.zero = some z)
    (hsize : i.size = size) (hby : i.bytes = bytes) (hzs : z.cells.size = size) (hsz : 0 < size)
    (v : Value) (n : Nat) (xs : List Value) (hs : a.eval s = v) (hown : w.ownsRow base e size v n xs)
    (vx : Value) (m : Nat) (news : List Value) (hx : a.eval x = vx) (hsrc : (vx = .slice none 0 0 ∧ m = 0 ∧ news = []) ∨ ∃ ad c, vx = .slice (some ad) m c ∧ news.length = m * size ∧ ∀ j u, news[j]? = some u → w.cell? (ad.add j) = some u) (h1 : ∀ u ∈ news, u.oneCell' = true)
    (h63 : n + m ≤ maxLen) (hbytes : (n + m) * bytes ≤ 140737488355328) (hbase : base ≤ w.heap.size)
    (h : ∀ v' w', w'.ownsRow base e size v' (n + m) (xs ++ news) → w.grownBy w' v.ownBlock → wpList P ops Q rest (a.put o.dst v') w') :
    wpList P ops Q (o :: rest) a w := by
  rcases hsrc with ⟨rfl, rfl, rfl⟩ | ⟨ad, c, rfl, hl, hc⟩
  · refine wpList_append_own_none hgd s x t ho base e i size ht hi v n xs hs hown hx ?_
    exact h v w (by simpa using hown) (grown_refl _ _)
  · refine wpList_append_own_at w hgd s x t ho base e i z size bytes ht hi hz hsize hby hzs hsz v n xs hs hown ad m c news hx hl hc h1 h63 hbytes hbase ?_
    intro v' w' h1 h2 _ _
    exact h v' w' h1 h2

/-- Where the building of the turned row stands. -/
structure BackAt (w : World) (ps : List (Raw × Value)) (j : Nat) (vb : Value) (wr : World) : Prop where
  low : Below w.heap.size w wr
  own : wr.ownsRow w.heap.size 30 4 vb j (flatV (ps.take j).reverse)
theorem BackAt.drew {w wr : World} {ps : List (Raw × Value)} {j : Nat} {vb : Value} (h : BackAt w ps j vb wr) : BackAt w ps j vb wr.drew := ⟨h.low.drew, h.own⟩
theorem take_back {ps : List (Raw × Value)} {j : Nat} {q : Raw × Value} (h : ps[j]? = some q) : (ps.take (j + 1)).reverse = q :: (ps.take j).reverse := by
  rw [List.take_add_one, h]
  simp
theorem grown_below {w a b : World} {row : Option Nat} {B : Nat} (h : Below B w a) (hg : a.grownBy b row) (hB : B ≤ a.heap.size) (hr : ∀ k, row = some k → B ≤ k) : Below B w b := h.grown hg hB hr

set_option maxRecDepth 20000 in
set_option maxHeartbeats 4000000 in
theorem rany_some {w : World} {g o len cap n : Nat} {ps : List (Raw × Value)} (hF : ∀ w', Calls Tryz.prog 6 #[.slice (some ⟨g, o, none⟩) len cap] w' fun e w'' => e = .returned (.slice (some ⟨g, o, none⟩) n cap) ∧ w'' = w') (h : RawView w g o ps) (hn : ps.length = n) (h0 : 0 < n) (h60 : n ≤ 60) (hs : ∀ q ∈ ps, Small q.1.mat q.1.ports) :
    Calls Tryz.prog 4 #[.slice (some ⟨g, o, none⟩) len cap] w fun e w' => e = .returned (.bool true) ∧ Below w.heap.size w w' := by
  have mixed := Tryz.mixed
  have HF := hid hF
  have H := hid h
  have HN := hid hn
  have HS := hid hs
  have hg := h.old
  obtain ⟨i0, hi, hz0, hz1, hz2⟩ := info_parts Tryz.infoRule4
  have HI := hid hi
  have HZ0 := hid hz0
  have HZ1 := hid hz1
  have HZ2 := hid hz2
  clear hF h hn hs hi hz0 hz1 hz2
  go_enter Tryz.func4, Tryz.ntmps4
  go_wp2_with fail
  refine (HF.out _).mono ?_
  rintro en w1 ⟨rfl, hww⟩
  have hw1 := hww.symm
  clear hww
  subst hw1
  have HV := hid (show ∀ W, Below w.heap.size w W → RawView W g o ps from fun W hW => ⟨Nat.lt_of_lt_of_le hg hW.size, fun i q hq => by
    obtain ⟨c0, c1, c2, c3⟩ := H.out.cell i q hq
    exact ⟨(hW.cell (by exact hg)).trans c0, (hW.cell (by exact hg)).trans c1, (hW.cell (by exact hg)).trans c2, (hW.cell (by exact hg)).trans c3⟩, fun q hq => ⟨(H.out.ports q hq).1.below hW, (H.out.ports q hq).2⟩⟩)
  have HPV := hid (show ∀ q ∈ ps, ∃ ao n c, q.2 = .slice ao n c from fun q hq => by obtain ⟨ao, c, e, _⟩ := (H.out.ports q hq).1; exact ⟨ao, _, c, e⟩)
  have HB0 := hid (show BackAt w ps 0 (.slice none 0 0) w from ⟨Below.refl _ _, World.ownsRow_nil _ _ _ _⟩)
  go_wp2_with fail
  go_loopw [3, 4, 5] (fun vb vi _ wr => ∃ (j : Nat) (bo : Option Addr) (bc : Nat), j ≤ n ∧ vi = .int .i64 j ∧ vb = .slice bo j bc ∧ Hid (BackAt w ps j (.slice bo j bc) wr) ∧ Hid (Apart_ ps j)) (fun _ vi _ _ => n - (intOf vi).toNat)
  case atStart => exact ⟨0, none, 0, Nat.zero_le _, rfl, rfl, HB0, fun i j _ h => by omega⟩
  case round =>
    obtain ⟨j, bo, bc, hj, rfl, rfl, HA, HK⟩ := hrel
    rename World => wo
    by_cases hlt : j < n
    · obtain ⟨q, hq⟩ : ∃ q, ps[j]? = some q := ⟨ps[j]'(by rw [HN.out]; exact hlt), List.getElem?_eq_getElem _⟩
      have HQ := hid hq
      have hI : (j : Int) < (n : Int) := by omega
      have j0 : (0 : Int) ≤ (j : Int) := by omega
      obtain ⟨e0, e1, e2, e3⟩ := (HV.out _ HA.out.low).cell j q hq
      obtain ⟨ao, an, ac, hq2⟩ := HPV.out q (List.mem_of_getElem? hq)
      obtain ⟨⟨pp, mm, kk, zz⟩, uv⟩ := q
      simp only at e0 e1 e2 e3 hq2
      subst hq2
      have hsz := HA.out.low.size
      have HO1 := hid (show (wo.alloc (rob pp (tx mm) kk (.slice ao an ac))).ownsRow w.heap.size 30 4 (.slice (some ⟨wo.heap.size, 0, none⟩) 1 1) 1 [.int .i64 pp, .string (tx mm), .int .i64 kk, .slice ao an ac] from ⟨rfl, Or.inr ⟨wo.heap.size, 1, _, rfl, hsz, new_0 _ _, Nat.le_refl _, by unfold maxLen; omega, rfl, rfl⟩⟩)
      have HSRC := hid (show ((.slice bo j bc : Value) = .slice none 0 0 ∧ j = 0 ∧ flatV (ps.take j).reverse = []) ∨ ∃ ad c, (.slice bo j bc : Value) = .slice (some ad) j c ∧ (flatV (ps.take j).reverse).length = j * 4 ∧ ∀ t u, (flatV (ps.take j).reverse)[t]? = some u → (wo.alloc (rob pp (tx mm) kk (.slice ao an ac))).cell? (ad.add t) = some u from by
        rcases HA.out.own.2 with ⟨h1, h2⟩ | ⟨gg, cp, cur, h1, _, hh, _, _, _, ht⟩
        · exact Or.inl ⟨h1, h2, by rw [h2]; rfl⟩
        · refine Or.inr ⟨⟨gg, 0, none⟩, cp, h1, HA.out.own.1, fun t u hu => ?_⟩
          rw [addr_add5, Nat.zero_add, cell_at (new_old _ _ hh), ← Array.getElem?_toList]
          rw [← ht, List.getElem?_take] at hu
          split at hu
          · exact hu
          · cases hu)
      have HONE := hid (flatV_one (rs := (ps.take j).reverse) (fun q hq => HPV.out q (List.mem_of_mem_take (List.mem_reverse.1 hq))))
      clear hq
      go_wp2_with (first | (at_builtin; refine wpList_append_srcR _ rfl _ _ 22 rfl w.heap.size 30 i0 (.agg #[.int .i64 0, .string (tx []), .int .i64 0, .slice none 0 0]) 4 56 Tryz.underlying22 HI.out HZ0.out HZ1.out HZ2.out rfl (by decide) (.slice (some ⟨wo.heap.size, 0, none⟩) 1 1) 1 [.int .i64 pp, .string (tx mm), .int .i64 kk, .slice ao an ac] rfl HO1.out (.slice bo j bc) j (flatV (ps.take j).reverse) rfl HSRC.out HONE.out ?c3 ?c4 ?c5 ?_))
      case c3 => unfold maxLen; omega
      case c4 => omega
      case c5 => simp; omega
      intro v' w6 hown6 hgrow6
      obtain ⟨a6, c6, rfl⟩ := own_form hown6
      rw [Nat.add_comm 1 j] at hown6 ⊢
      have HA6 := hid (show BackAt w ps (j + 1) (.slice a6 (j + 1) c6) w6 from by
        have b5 := HA.out.low.alloc hsz (rob pp (tx mm) kk (.slice ao an ac))
        refine ⟨b5.grown hgrow6 b5.size (fun q hq => ?_), ?_⟩
        · have : q = wo.heap.size := by simpa [Value.ownBlock] using hq.symm
          rw [this]; exact hsz
        · rw [take_back HQ.out]
          exact hown6)
      clear hown6 hgrow6 e0 e1 e2 e3
      go_wp2_with fail
      go_loopw [5] (fun vk wr => ∃ k : Nat, k ≤ j ∧ vk = .int .i64 k ∧ Hid (BackAt w ps (j + 1) (.slice a6 (j + 1) c6) wr) ∧ Hid (∀ t, t < k → ¬ sameKey (rawAt ps j) (rawAt ps t))) (fun vk _ => j - (intOf vk).toNat)
      case atStart => exact ⟨0, Nat.zero_le _, rfl, HA6, fun t h => by omega⟩
      case round =>
        obtain ⟨k, hk, rfl, HX, HU⟩ := hrel
        by_cases hkj : k < j
        · obtain ⟨r, hr⟩ : ∃ r, ps[k]? = some r := ⟨ps[k]'(by rw [HN.out]; omega), List.getElem?_eq_getElem _⟩
          have HR := hid hr
          have hkI : (k : Int) < (j : Int) := by omega
          have k0 : (0 : Int) ≤ (k : Int) := by omega
          have kn : (k : Int) < (n : Int) := by omega
          obtain ⟨e0, e1, _, _⟩ := (HV.out _ HX.out.low).cell j _ HQ.out
          obtain ⟨d0, d1, _, _⟩ := (HV.out _ HX.out.low).cell k r hr
          obtain ⟨⟨p', m', k', z'⟩, uv⟩ := r
          simp only at e0 e1 d0 d1
          clear hr
          by_cases hp : pp = p'
          · by_cases hm : mm = m'
            · subst hp hm
              have q1 : (pp == pp) = true := by simp
              have q2 : (mm == mm) = true := by simp
              have HXD := hid HX.out.drew
              go_wp2_with fail
              go_big_region_o
              generalize wr.drew = w7 at HXD ⊢
              go_wp2_with (first | (go_at_call 12; refine (ualive _).mono ?_; rintro e w9 ⟨rfl, hb9⟩))
              go_ret
              exact ⟨rfl, below_two HXD.out.low hb9⟩
            · subst hp
              have q1 : (pp == pp) = true := by simp
              have q2 : (mm == m') = false := by rw [beq_eq_false_iff_ne]; exact hm
              have q3 : ¬ (tx mm).toList = (tx m').toList := fun q => hm (by simpa [ByteArray.toList_eq] using q)
              have HU2 := hid (show ∀ t, t < k + 1 → ¬ sameKey (rawAt ps j) (rawAt ps t) from fun t ht => by
                by_cases htk : t < k
                · exact HU.out t htk
                · have : t = k := by omega
                  subst this
                  rw [rawAt_some HQ.out, rawAt_some HR.out]
                  exact fun s => hm s.2)
              have HXD := hid HX.out.drew
              go_wp2_with fail
              go_big_region_o
              generalize wr.drew = w7 at HXD ⊢
              go_wp2
              go_roundw
              case rel => exact ⟨k + 1, by omega, by go_num, HXD, HU2⟩
              case measure => simp [intOf]; omega
          · have q1 : (pp == p') = false := by rw [beq_eq_false_iff_ne]; exact hp
            have HU2 := hid (show ∀ t, t < k + 1 → ¬ sameKey (rawAt ps j) (rawAt ps t) from fun t ht => by
              by_cases htk : t < k
              · exact HU.out t htk
              · have : t = k := by omega
                subst this
                rw [rawAt_some HQ.out, rawAt_some HR.out]
                exact fun s => hp s.1)
            have HXD := hid HX.out.drew
            go_wp2_with fail
            go_big_region_o
            generalize wr.drew = w7 at HXD ⊢
            go_wp2
            go_roundw
            case rel => exact ⟨k + 1, by omega, by go_num, HXD, HU2⟩
            case measure => simp [intOf]; omega
        · have hkI : ¬ ((k : Int) < (j : Int)) := by omega
          have HK2 := hid (show Apart_ ps (j + 1) from fun a b hab hb => by
            by_cases hbj : b < j
            · exact HK.out a b hab hbj
            · have : b = j := by omega
              subst this
              exact HU.out a (by omega))
          go_wp2
          go_roundw
          case rel => exact ⟨j + 1, a6, c6, by omega, by go_num, rfl, HX, HK2⟩
          case measure => simp [intOf]; omega
    · have hI : ¬ ((j : Int) < (n : Int)) := by omega
      have hjn : j = n := by omega
      subst hjn
      have HSM := hid (show ∀ q ∈ ps.reverse, Small q.1.mat q.1.ports from fun q hq => HS.out q (List.mem_reverse.1 hq))
      have HTK := hid (show (ps.take j).reverse = ps.reverse by rw [List.take_of_length_le (by rw [HN.out]; exact Nat.le_refl _)])
      have HO1 := hid (Order_some (cap := cap) (HV.out _ HA.out.low) HN.out (by omega) HS.out)
      obtain ⟨g2, c2, hvb, hg2, _, hc2⟩ := own_view (rs := (ps.take j).reverse) (by have := HA.out.own; rw [List.length_reverse, List.length_take, HN.out, Nat.min_self]; exact this) (fun q => by have q1 := congrArg List.length q; rw [List.length_reverse, List.length_take, HN.out] at q1; simp at q1; omega)
      rw [List.length_reverse, List.length_take, HN.out, Nat.min_self] at hvb
      have HC2 := hid hc2
      have hbo : bo = some ⟨g2, 0, none⟩ := by injection hvb
      have hbc : bc = c2 := by injection hvb
      subst hbo hbc
      clear hvb hc2
      go_wp2_with fail
      refine HO1.out.mono ?_
      rintro en w5 ⟨ob1, qs1, L1, hP1⟩
      have hen := hP1.out.told
      subst hen
      have HP1 := hid hP1.out
      clear hP1
      have B5 := hid (HA.out.low.trans (HP1.out.low.mono HA.out.low.size))
      have HV2 := hid (show RawView w5 g2 0 ps.reverse from own_raw (Nat.lt_of_lt_of_le hg2 HP1.out.low.size) (fun t u hu => by
        rw [HP1.out.low.cell (by exact hg2)]
        exact HC2.out t u (by rw [HTK.out]; exact hu)) (fun q hq => (HV.out _ B5.out).ports q (List.mem_reverse.1 hq)))
      have HO2 := hid (Order_some (cap := bc) HV2.out (by rw [List.length_reverse, HN.out]) (by omega) HSM.out)
      go_wp2_with fail
      refine HO2.out.mono ?_
      rintro en w6 ⟨ob2, qs2, L2, hP2⟩
      have hen := hP2.out.told
      subst hen
      have HP2 := hid hP2.out
      clear hP2
      have B6 := hid (B5.out.trans (HP2.out.low.mono B5.out.size))
      have HEQ := hid (show qs1.map Prod.fst = qs2.map Prod.fst by
        rw [HP1.out.same, HP2.out.same]
        have hN := HN.out
        exact order_any (by rw [hN]; exact HK.out) (by rw [hN]; exact HP1.out.sorted) (by rw [hN]; exact HP2.out.sorted))
      have HV1 := hid (show RawView w6 ob1 0 qs1 from by
        have hv := HP1.out.view
        have hb := HP2.out.low
        exact ⟨Nat.lt_of_lt_of_le hv.old hb.size, fun i q hq => by
          obtain ⟨c0, c1, c2, c3⟩ := hv.cell i q hq
          exact ⟨(hb.cell (by exact hv.old)).trans c0, (hb.cell (by exact hv.old)).trans c1, (hb.cell (by exact hv.old)).trans c2, (hb.cell (by exact hv.old)).trans c3⟩, fun q hq => ⟨(hv.ports q hq).1.below hb, (hv.ports q hq).2⟩⟩)
      have HL1 := hid (show qs1.length = j by have q := congrArg List.length HP1.out.same; rw [List.length_map, List.length_map] at q; have := HP1.out.sorted.len; omega)
      have HL2 := hid (show qs2.length = j by have q := congrArg List.length HEQ.out; rw [List.length_map, List.length_map] at q; have := HL1.out; omega)
      have HSR := hid (SameRules_rr j j j HV1.out (fun q hq => by
        have hm : q.1 ∈ qs1.map Prod.fst := List.mem_map_of_mem hq
        rw [HP1.out.same] at hm
        obtain ⟨y, _, hy⟩ := List.mem_map.1 hm
        rw [← hy]
        unfold rawAt
        cases hpy : ps[y]? with
        | none => simp
        | some q0 => have := (HS.out q0 (List.mem_of_getElem? hpy)).2.1; show q0.1.ports.length ≤ _; unfold maxLen; omega) HP2.out.view HL1.out HL2.out HEQ.out (by omega))
      go_wp2_with fail
      refine HSR.out.mono ?_
      rintro en w7 ⟨rfl, hb7⟩
      have B7 := hid (below_two B6.out hb7)
      clear hb7
      go_wp2_with (first | (go_at_call 12; refine (ualive _).mono ?_; rintro e w9 ⟨rfl, hb9⟩))
      go_ret
      exact ⟨rfl, below_two B7.out hb9⟩
end Go.Proofs.YthkhlhghbdbopaaGreatDoor
namespace Go.Proofs.YthkhlhghbdbopaaGreatDoor
open Go.RowKit

/-- The rules at some places. -/
def rowOf (ps : List (Raw × Value)) (S : List Nat) : List (Raw × Value) := S.map fun i => ps.getD i (⟨0, [], 0, []⟩, .slice none 0 0)
theorem rowOf_len (ps : List (Raw × Value)) (S : List Nat) : (rowOf ps S).length = S.length := by simp [rowOf]
theorem rowOf_get {ps : List (Raw × Value)} {S : List Nat} {t y : Nat} {q : Raw × Value} (hy : S[t]? = some y) (hq : ps[y]? = some q) : (rowOf ps S)[t]? = some q := by
  unfold rowOf
  rw [List.getElem?_map, hy]
  simp [List.getD_eq_getElem?_getD, hq]
theorem rowOf_append (ps : List (Raw × Value)) (A B : List Nat) : rowOf ps (A ++ B) = rowOf ps A ++ rowOf ps B := by simp [rowOf]
/-- Where the document's Order stands: the rules at S are its row so far. -/
structure DocAt (w : World) (ps : List (Raw × Value)) (j : Nat) (vo : Value) (S : List Nat) (wr : World) : Prop where
  low : Below w.heap.size w wr
  own : wr.ownsRow w.heap.size 30 4 vo j (flatV (rowOf ps S))
  up : St.Up (cmpAt ps) S
  perm : S.Perm (List.range' 0 j)
theorem DocAt.len {w wr : World} {ps : List (Raw × Value)} {j : Nat} {vo : Value} {S : List Nat} (h : DocAt w ps j vo S wr) : S.length = j := by rw [h.perm.length_eq]; simp
theorem DocAt.mem {w wr : World} {ps : List (Raw × Value)} {j : Nat} {vo : Value} {S : List Nat} (h : DocAt w ps j vo S wr) {x : Nat} (hx : x ∈ S) : x < j := by
  have := h.perm.mem_iff.1 hx
  rw [List.mem_range'_1] at this
  omega
theorem own_kept {w w' : World} {B : Nat} {v : Value} {n : Nat} {xs : List Value} (h : w.ownsRow B 30 4 v n xs) (hb : Below w.heap.size w w') : w'.ownsRow B 30 4 v n xs := by
  obtain ⟨h1, h2⟩ := h
  refine ⟨h1, ?_⟩
  rcases h2 with h2 | ⟨g, cap, cur, e, hB, hh, r⟩
  · exact Or.inl h2
  · exact Or.inr ⟨g, cap, cur, e, hB, below_block hb hh (lt_of_block hh), r⟩
/-- A row's cells, for reading: none, or from an address on. -/
theorem own_cells {w : World} {B : Nat} {bo : Option Addr} {n c : Nat} {xs : List Value} (h : w.ownsRow B 30 4 (.slice bo n c) n xs) : (bo = none ∧ n = 0 ∧ c = 0) ∨ ∃ g, bo = some ⟨g, 0, none⟩ ∧ B ≤ g ∧ n ≤ c ∧ g < w.heap.size ∧ ∀ (j : Nat) (u : Value), xs[j]? = some u → w.cell? ⟨g, j, none⟩ = some u := by
  rcases h.2 with ⟨e, h0⟩ | ⟨g, cap, cur, e, hB, hh, hn, _, _, ht⟩
  · injection e with e1 e2 e3
    exact Or.inl ⟨e1, e2, e3⟩
  · injection e with e1 e2 e3
    refine Or.inr ⟨g, e1, hB, by omega, lt_of_block hh, fun j u hj => ?_⟩
    rw [cell_at hh, ← Array.getElem?_toList]
    rw [← ht, List.getElem?_take] at hj
    split at hj
    · exact hj
    · cases hj
end Go.Proofs.YthkhlhghbdbopaaGreatDoor
