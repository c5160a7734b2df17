/-
  The law CubeParts: of any three texts it answers true.
-/
import Derived.Test.YtfgdikhpabapkaaApart
import Derived.Test.YtfgdikhpabapkaaPartsM
namespace Go.Proofs.Ytfgdikhpabapkaa
open Go.RowKit

theorem errH_zero {c h : ByteArray} (e : errH c h = 0) : hasX h = false ∧ err2 h c = 0 := by
  unfold errH at e
  split at e
  · cases e
  · rename_i hx
    exact ⟨Bool.not_eq_true _ ▸ hx, e⟩

/-- A header: every place is fixed. -/
theorem header_fixed {h : ByteArray} (hx : hasX h = false) (hr : Cu.right h.data.toList = true) : ∀ i, i < h.data.toList.length → Cu.fixAt h.data.toList i = true := by
  intro i hi
  obtain ⟨h1, _, _⟩ := Cu.right_all hr
  rw [Cu.fixAt_lt hi]
  rcases Cu.sym_at h1 i hi with e | e | e
  · rw [e]; rfl
  · rw [e]; rfl
  · exfalso
    have : (120 : UInt8) ∈ h.data.toList := by rw [← e]; exact List.getElem_mem hi
    unfold hasX at hx
    rw [← Bool.not_eq_true, List.contains_iff_mem] at hx
    exact hx this

theorem hasB_list {c : List UInt8} {h : ByteArray} (hx : hasX h = false) (hh : Cu.right h.data.toList = true) (hc : Cu.right c = true) (hl : c.length = h.size) : hasB ⟨c.toArray⟩ h = Cu.insideB h.data.toList c := by
  have e : err2 h ⟨c.toArray⟩ = 0 := err2_of hh (by simpa using hc) (by show h.size = c.toArray.size; simp [hl])
  unfold hasB insB
  rw [hx, e]
  simp

theorem in_cut {a b h : ByteArray} (h0 : err2 a b = 0) (h1 : errH a h = 0) (h2 : errH b h = 0) : inB (Cu.cutL a.data.toList b.data.toList) h = (hasB a h && !hasB b h) := by
  obtain ⟨ha, hb, hs⟩ := err2_zero h0
  obtain ⟨hx, e1⟩ := errH_zero h1
  obtain ⟨_, e2⟩ := errH_zero h2
  obtain ⟨hh, _, hsa⟩ := err2_zero e1
  obtain ⟨hh1, _, _⟩ := Cu.right_all hh
  have q := Cu.in_parts (h := h.data.toList) ha hb hh1 hs hsa (header_fixed hx hh)
  have ea : hasB a h = Cu.insideB h.data.toList a.data.toList := by unfold hasB insB; rw [hx, e1]; simp
  have eb : hasB b h = Cu.insideB h.data.toList b.data.toList := by unfold hasB insB; rw [hx, e2]; simp
  rw [ea, eb, Bool.eq_iff_iff]
  rw [Bool.and_eq_true, Bool.not_eq_true', ← q]
  unfold inB
  rw [List.any_eq_true]
  constructor
  · rintro ⟨l, hl, hi⟩
    obtain ⟨r1, r2⟩ := Cu.cutL_right ha hb hs l hl
    rw [hasB_list hx hh r1 (by rw [r2]; exact hsa.symm)] at hi
    exact ⟨l, hl, hi⟩
  · rintro ⟨l, hl, hi⟩
    obtain ⟨r1, r2⟩ := Cu.cutL_right ha hb hs l hl
    refine ⟨l, hl, ?_⟩
    rw [hasB_list hx hh r1 (by rw [r2]; exact hsa.symm)]
    exact hi

theorem errL_of {ls : List (List UInt8)} {n : Nat} (h : ∀ l ∈ ls, Cu.right l = true ∧ l.length = n) : errL ls = 0 := by
  have h1 : allRight ls = true := List.all_eq_true.2 (fun l hl => (h l hl).1)
  have h2 : allWide ls = true := List.all_eq_true.2 (fun l hl => by
    have h0 : 0 < ls.length := List.length_pos_of_mem hl
    rw [nth_at h0]
    simp only [beq_iff_eq]
    rw [(h l hl).2, (h _ (List.getElem_mem h0)).2])
  unfold errL
  rw [if_pos h1, if_pos h2]

theorem apartB_of {ls : List (List UInt8)} (h : ls.Pairwise fun x y => Cu.meetsB y x = false) : apartB ls = true := by
  refine decide_eq_true (fun i hi j hj => ?_)
  have hj' : j < ls.length := by omega
  rw [nth_at hi, nth_at hj']
  exact List.pairwise_iff_getElem.1 h j i hj' hi hj

theorem sv_data (b : ByteArray) : Value.string b = sv b.data.toList := by
  show Value.string b = Value.string ⟨b.data.toList.toArray⟩
  rw [Array.toArray_toList]

theorem texts_cells {w : World} {g n cap : Nat} {ls : List (List UInt8)} (h : Texts w (.slice (some ⟨g, 0, none⟩) n cap) ls) : g < w.heap.size ∧ ∀ i (h : i < ls.length), w.cell? ⟨g, i, none⟩ = some (sv ls[i]) := by
  obtain ⟨g', cap', cs, e, hg, hc⟩ := h
  simp only [Value.slice.injEq, Option.some.injEq, Addr.mk.injEq, and_true] at e
  obtain ⟨rfl, _⟩ := e
  refine ⟨lt_of_block hg, fun i hi => ?_⟩
  unfold World.cell?
  rw [hg]
  exact hc i hi

theorem texts_news {w : World} {g : Nat} {ls : List (List UInt8)} {o : Obj} (hg : g < w.heap.size) (hc : ∀ i (h : i < ls.length), w.cell? ⟨g, i, none⟩ = some (sv ls[i])) : ∀ j u, (svs ls)[j]? = some u → (w.alloc o).cell? ((⟨g, 0, none⟩ : Addr).add j) = some u := by
  intro j u hj
  rw [add_zero]
  have hl : j < ls.length := by
    have := List.getElem?_eq_some_iff.1 hj
    obtain ⟨h, _⟩ := this
    simpa [svs] using h
  have hb : Below w.heap.size w (w.alloc o) := (Below.refl _ _).alloc (Nat.le_refl _) _
  rw [hb.cell (by exact hg), hc j hl]
  rw [← hj]
  simp [svs, List.getElem?_eq_getElem hl]
theorem svs_one (ls : List (List UInt8)) : ∀ u ∈ svs ls, u.oneCell' = true := by
  intro u hu
  simp only [svs, List.mem_map] at hu
  obtain ⟨l, _, rfl⟩ := hu
  rfl

set_option maxHeartbeats 2000000 in
theorem parts_yes (a b h : ByteArray) (w : World) (h0 : err2 a b = 0) (h1 : errH a h = 0) (h2 : errH b h = 0) :
    Calls Try.prog 6 #[.string a, .string b, .string h] w fun e w' => e = .returned (.bool true) ∧ Below w.heap.size w w' := by
  obtain ⟨ha, hb, hs⟩ := err2_zero h0
  have HA := hid ha
  have HB := hid hb
  have HS := hid hs
  have H1 := hid h1
  have H2 := hid h2
  obtain ⟨ls, hls⟩ : ∃ ls, ls = Cu.cutL a.data.toList b.data.toList := ⟨_, rfl⟩
  have HLS := hid hls
  have hlen : ls.length ≤ 128 := by rw [hls]; exact Cu.cutL_length ha
  have HIN : Hid (inB ls h = (hasB a h && !hasB b h)) := by show _ = _; rw [hls]; exact in_cut h0 h1 h2
  have hmem : ∀ l ∈ ls ++ [b.data.toList], Cu.right l = true ∧ l.length = a.size := by
    intro l hl
    rw [List.mem_append, List.mem_singleton] at hl
    rcases hl with hl | hl
    · rw [hls] at hl; exact Cu.cutL_right ha hb hs l hl
    · subst hl; exact ⟨hb, hs.symm⟩
  have HEL := hid (errL_of hmem)
  have HAP : Hid (apartB (ls ++ [b.data.toList]) = true) := by
    refine apartB_of ?_
    rw [hls]; exact Cu.pair_cutL ha hb hs
  clear ha hb hs h0 h1 h2 hls hmem
  obtain ⟨i0, hi, hz0, hz1, hz2⟩ := info_parts Try.infoString
  have HI := hid hi
  have HZ0 := hid hz0
  have HZ1 := hid hz1
  have HZ2 := hid hz2
  clear hi hz0 hz1 hz2
  go_enter Try.func6, Try.ntmps6
  go_wp2_with fail
  have q := Cut_ok a b w HA.out HB.out HS.out
  rw [← HLS.out] at q
  refine q.mono ?_
  clear q
  rintro e w1 ⟨v1, rfl, ht, hb1⟩
  obtain ⟨g, cap, cs, rfl, hg, hcs⟩ := ht
  have HT : Hid (Texts w1 (.slice (some ⟨g, 0, none⟩) ls.length cap) ls) := ⟨g, cap, cs, rfl, hg, hcs⟩
  clear hg hcs
  go_wp2_with fail
  have q := Has_any a h w1
  rw [H1.out] at q
  refine q.mono ?_
  clear q
  rintro e w2 ⟨rfl, hb2⟩
  go_wp2_with fail
  have q := Has_any b h w2
  rw [H2.out] at q
  refine q.mono ?_
  clear q
  rintro e w3 ⟨rfl, hb3⟩
  have B3 := hid (below3 hb1 hb2 hb3)
  have T3 := hid ((HT.out.below hb2).below hb3)
  clear hb1 hb2 hb3
  obtain ⟨x, hx⟩ : ∃ x, x = hasB a h := ⟨_, rfl⟩
  obtain ⟨y, hy⟩ : ∃ y, y = hasB b h := ⟨_, rfl⟩
  rw [← hx, ← hy]
  rw [← hx, ← hy] at HIN
  clear hx hy
  have hO1 := hid (World.ownsRow_lit (e := 9) (size := 1) w3 #[] 0 (Nat.le_refl _) (Nat.zero_le _) rfl)
  go_wp2_with (first | (at_builtin; refine wpList_append_own_at _ rfl (.tmp 45) (.tmp 46) 29 rfl w3.heap.size 9 i0 (.string ByteArray.empty) 1 16 Try.underlying29 HI.out HZ0.out HZ1.out HZ2.out rfl (by decide) (.slice (some ⟨w3.heap.size, 0, none⟩) 0 0) 0 [] rfl hO1.out ⟨g, 0, none⟩ ls.length cap (svs ls) rfl ?d0 ?d1 ?d2 ?d3 ?d4 ?d5 ?_))
  case d0 => simp [svs]
  case d1 => exact texts_news (texts_cells T3.out).1 (texts_cells T3.out).2
  case d2 => exact svs_one ls
  case d3 => unfold maxLen; omega
  case d4 => omega
  case d5 => simp
  intro v2 w4 hown4 hgrow4 _ hat4
  have O4 := hid hown4
  have hs4 : w3.heap.size + 1 ≤ w4.heap.size := by have := hgrow4.size; simpa using this
  have B4 : Hid (Below w3.heap.size w3 w4) := ((Below.refl _ _).alloc (Nat.le_refl _) _).grown hgrow4 (by simp) (fun k hk => by simp [Value.ownBlock] at hk; omega)
  clear hown4 hgrow4 hat4
  go_wp2_with (first | (at_builtin; refine wpList_append_own_at _ rfl (.tmp 47) (.tmp 49) 29 rfl w3.heap.size 9 i0 (.string ByteArray.empty) 1 16 Try.underlying29 HI.out HZ0.out HZ1.out HZ2.out rfl (by decide) v2 ls.length (svs ls) rfl (O4.out.alloc _) ⟨w4.heap.size, 0, none⟩ 1 1 [.string b] rfl rfl (new_cells _ #[.string b] _ _ rfl) ?e2 ?e3 ?e4 ?e5 ?_))
  case e2 => intro u hu; simp at hu; subst hu; rfl
  case e3 => unfold maxLen; omega
  case e4 => omega
  case e5 => simp; omega
  intro v3 w5 hown5 hgrow5 _ hat5
  rw [sv_data b, ← svs_snoc] at hown5
  have R5 : Hid (Row w5 v3 (ls ++ [b.data.toList])) := row_own (base := w3.heap.size) (by simpa using hown5)
  have B5 : Hid (Below w3.heap.size w3 w5) := (B4.out.alloc (by omega) _).grown hgrow5 (by simp; omega) (fun k hk => (O4.out.lt k hk).1)
  clear hown5 hgrow5 hat5
  go_wp2_with fail
  have q := Apart_any (ls ++ [b.data.toList]) v3 w5 R5.out (by simp) (by simp; omega)
  rw [HEL.out, HAP.out] at q
  refine q.mono ?_
  clear q
  rintro e w6 ⟨rfl, hb6⟩
  have B6 : Hid (Below w3.heap.size w3 w6) := B5.out.trans (hb6.mono B5.out.size)
  have R6 : Hid (Row w6 (.slice (some ⟨g, 0, none⟩) ls.length cap) ls) := T3.out.row.below B6.out (Nat.le_refl _)
  go_wp2_with fail
  have q := in_any ls _ h w6 R6.out (by omega)
  rw [HIN.out] at q
  refine q.mono ?_
  clear q
  rintro e w7 ⟨rfl, hb7⟩
  have B7 := hid (below2 (below2 B3.out B6.out) hb7)
  cases x
  · go_wp2_with fail
    refine (alive_any _).mono ?_
    rintro e w8 ⟨rfl, hb8⟩
    go_wp2
    go_ret
    exact ⟨rfl, below2 B7.out hb8⟩
  · go_wp2_with fail
    refine (alive_any _).mono ?_
    rintro e w8 ⟨rfl, hb8⟩
    go_wp2
    go_ret
    exact ⟨rfl, below2 B7.out hb8⟩

set_option maxHeartbeats 1000000 in
theorem parts_no (a b h : ByteArray) (w : World) (hn : ¬ (err2 a b = 0 ∧ errH a h = 0 ∧ errH b h = 0)) :
    Calls Try.prog 6 #[.string a, .string b, .string h] w fun e w' => e = .returned (.bool true) ∧ Below w.heap.size w w' := by
  have HN := hid hn
  clear hn
  go_enter Try.func6, Try.ntmps6
  go_wp2_with fail
  refine (Cut_any a b _).mono ?_
  rintro e w1 ⟨v1, rfl, r1, hb1⟩
  clear r1
  go_wp2_with fail
  refine (Has_any a h _).mono ?_
  rintro e w2 ⟨rfl, hb2⟩
  go_wp2_with fail
  refine (Has_any b h _).mono ?_
  rintro e w3 ⟨rfl, hb3⟩
  have B3 := hid (below3 hb1 hb2 hb3)
  clear hb1 hb2 hb3
  by_cases e0 : err2 a b = 0
  · have e0b : (err2 a b != 0) = false := by rw [e0]; rfl
    by_cases e1 : errH a h = 0
    · have e1b : (errH a h != 0) = false := by rw [e1]; rfl
      have e2b : (errH b h != 0) = true := by rw [bne_iff_ne]; exact fun e2 => HN.out ⟨e0, e1, e2⟩
      clear e0 e1
      go_wp2_with fail
      refine (alive_any _).mono ?_
      rintro e w8 ⟨rfl, hb8⟩
      go_wp2
      go_ret
      exact ⟨rfl, below2 B3.out hb8⟩
    · have e1b : (errH a h != 0) = true := by rw [bne_iff_ne]; exact e1
      clear e0 e1
      go_wp2_with fail
      refine (alive_any _).mono ?_
      rintro e w8 ⟨rfl, hb8⟩
      go_wp2
      go_ret
      exact ⟨rfl, below2 B3.out hb8⟩
  · have e0b : (err2 a b != 0) = true := by rw [bne_iff_ne]; exact e0
    clear e0
    go_wp2_with fail
    refine (alive_any _).mono ?_
    rintro e w8 ⟨rfl, hb8⟩
    go_wp2
    go_ret
    exact ⟨rfl, below2 B3.out hb8⟩

theorem parts_any (a b h : ByteArray) (w : World) : Calls Try.prog 6 #[.string a, .string b, .string h] w fun e w' => e = .returned (.bool true) ∧ Below w.heap.size w w' := by
  by_cases hn : err2 a b = 0 ∧ errH a h = 0 ∧ errH b h = 0
  · exact parts_yes a b h w hn.1 hn.2.1 hn.2.2
  · exact parts_no a b h w hn
end Go.Proofs.Ytfgdikhpabapkaa
