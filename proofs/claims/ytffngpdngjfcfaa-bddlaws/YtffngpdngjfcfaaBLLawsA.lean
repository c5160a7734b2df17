/-
  The law BddLaws: the walk.
-/
import Derived.Test.YtffngpdngjfcfaaBLLaws
namespace Go.Proofs.Ytffngpdngjfcfaa
open Go.RowKit Go.Maps
open Bd (Nd ff tt iteF)

/-- What the law comes upon, of its family. -/
theorem law_fam (nb : Nat) (t0 : ByteArray) (ts : List ByteArray) (h0 : t0.size = nb) (hs : ∀ t, t ∈ ts → t.size = nb) (hl : ts.length ≤ 11) (bs : List Bool) (hb : bs.length = ts.length) :
    (lawFam nb t0 ts h0 hs hl).F 0 (orL ts bs 0) ∧ (lawFam nb t0 ts h0 hs hl).F 0 (notF (orL ts bs 0)) ∧ (lawFam nb t0 ts h0 hs hl).F 0 (dif (orL ts bs 0) (suf t0 0)) ∧ (lawFam nb t0 ts h0 hs hl).F 0 (notF (dif (orL ts bs 0) (suf t0 0))) ∧ (lawFam nb t0 ts h0 hs hl).F 0 (suf t0 0) ∧ (lawFam nb t0 ts h0 hs hl).F 0 (notF (suf t0 0)) ∧ (lawFam nb t0 ts h0 hs hl).F 0 ff ∧ (lawFam nb t0 ts h0 hs hl).F 0 tt := by
  refine ⟨Or.inl ⟨bs, hb, Or.inl rfl⟩, Or.inl ⟨bs, hb, Or.inr (Or.inl rfl)⟩, Or.inl ⟨bs, hb, Or.inr (Or.inr (Or.inl rfl))⟩, Or.inl ⟨bs, hb, Or.inr (Or.inr (Or.inr rfl))⟩, Or.inr (Or.inl rfl), Or.inr (Or.inr rfl), ?_, ?_⟩
  · exact Or.inl ⟨pre ts.length 0, pre_length _ _, Or.inl (or_pre0 ts _ 0).symm⟩
  · refine Or.inl ⟨pre ts.length 0, pre_length _ _, Or.inr (Or.inl ?_)⟩
    rw [or_pre0]; rfl

/-- The law's table from call to call: a, b and so on are told one by one. -/
structure LawIs {nb : Nat} (A : Bd.Fam nb 8192) (a s : Bd.Fn) : Prop where
  lim : nb * 8192 ≤ 1048576
  fa : A.F 0 a
  fna : A.F 0 (notF a)
  fd : A.F 0 (dif a s)
  fnd : A.F 0 (notF (dif a s))
  fs : A.F 0 s
  fns : A.F 0 (notF s)
  no : A.F 0 ff
  yes : A.F 0 tt

theorem law_or {nb : Nat} {w0 w : World} {tb n g cap r0 : Nat} (hnb : nb ≤ 128) (h : LawAt nb w0 w tb n g cap r0) : ∃ (A : Bd.Fam nb 8192) (a s : Bd.Fn) (fs : List (Nat × Bd.Fn)) (cur : Array Value), n + 1 ≤ cap ∧ cap ≤ maxLen ∧ LawIs A a s ∧ (r0, s) ∈ fs ∧ cur[0]? = some (.int .i64 r0) ∧ w.cell? ⟨g, 0, none⟩ = some (.int .i64 r0) ∧
    Hid (Calls Try.prog 19 #[.pointer (some ⟨tb, 0, none⟩), .slice (some ⟨g, 1, none⟩) n (cap - 1)] w fun e w' => ∃ r' : Nat, e = .returned (.tuple #[.int .i64 r', .int .i64 0]) ∧ Live A w0.heap.size w0 w' tb (n + 2) ((r', a) :: fs) [(g, .cells cur 25 (0, 0))]) := by
  obtain ⟨t0, ts, h0, hs, hl, fs, rs, cur, e1, e2, hc1, hc2, c0, c1, m0, mG, hL⟩ := h.ex
  obtain ⟨f1, f2, f3, f4, f5, f6, f7, f8⟩ := law_fam nb t0 ts h0 hs hl (pre ts.length ts.length) (pre_length _ _)
  refine ⟨lawFam nb t0 ts h0 hs hl, orL ts (pre ts.length ts.length) 0, suf t0 0, fs, cur, hc1, hc2, ⟨by omega, f1, f2, f3, f4, f5, f6, f7, f8⟩, m0, c0, by rw [hL.cell]; exact c0, ?_⟩
  have hR : RefsAt w (.slice (some ⟨g, 1, none⟩) n (cap - 1)) rs := by
    refine ⟨some ⟨g, 1, none⟩, cap - 1, by rw [e2], fun i r hi => ⟨g, 1, rfl, block_lt (hL.held List.mem_cons_self), ?_⟩⟩
    rw [hL.cell, Nat.add_comm]
    exact c1 i r hi
  have := live_or hL (by omega) (show nb * 8192 ≤ 1048576 by omega) _ rs _ hR (by omega) mG (fun k => orL ts (pre ts.length k) 0) (or_pre0 ts _ 0).symm (fun k f hk => by
    rw [List.getElem?_map] at hk
    cases ht : ts[k]? with
    | none => rw [ht] at hk; cases hk
    | some t =>
      rw [ht] at hk
      have : suf t 0 = f := Option.some.inj hk
      subst this
      exact ⟨or_step ts k t ht, Or.inl ⟨pre ts.length (k + 1), pre_length _ _, Or.inl rfl⟩⟩)
  rw [e2, ← e1] at this
  rw [← e1]
  exact this

set_option maxRecDepth 8000 in
set_option maxHeartbeats 4000000 in
theorem laws_out (bits : Int) (a0 : Option Addr) (len cap : Nat) (w : World) (h : ((len : Int) < 3) = True ∨ ((len : Int) < 3) = False ∧ (12 < (len : Int)) = True) :
    Calls Try.prog 6 #[.int .i64 bits, .slice a0 len cap] w fun e w' => e = .returned (.bool true) ∧ Below w.heap.size w w' := by
  rcases h with h | ⟨h, h'⟩
  all_goals
    go_enter Try.func6, Try.ntmps6
    go_wp2_with fail
    refine (awake_any w).mono ?_
    rintro e w1 ⟨rfl, hb⟩
    have HB := keep hb
    clear hb
    go_wp2
    go_ret
    exact ⟨rfl, HB.out⟩

set_option maxRecDepth 8000 in
set_option maxHeartbeats 20000000 in
theorem laws_mid (bits : Int) (a0 : Option Addr) (len cap : Nat) (ss : List ByteArray) (w : World) (hv : Came w a0 len cap ss) (hN : 3 ≤ len ∧ len ≤ 12) :
    Calls Try.prog 6 #[.int .i64 bits, .slice a0 len cap] w fun e w' => e = .returned (.bool true) ∧ Below w.heap.size w w' := by
  have HV := keep hv
  have HN := keep hN
  have h : ((len : Int) < 3) = False := eq_false (by omega)
  have h' : (12 < (len : Int)) = False := eq_false (by omega)
  clear hv hN
  go_enter Try.func6, Try.ntmps6
  go_wp2_with fail
  refine (awake_any w).mono ?_
  rintro e w1 ⟨rfl, hb⟩
  have HB := keep hb
  have HV1 : Hid (Came w1 a0 len cap ss) := came_below HV.out hb
  clear hb
  go_wp2_with fail
  refine (cubes_law a0 len cap ss w1 HN.out.1 HN.out.2 HV1.out).mono ?_
  rintro e w2 (⟨p, v, rfl, hb⟩ | ⟨tb, nb, g, c, r0, n1, n2, rfl, hA⟩)
  · have HB2 := keep hb
    clear hb
    go_wp2
    go_ret
    exact ⟨rfl, HB.out.trans (HB2.out.mono HB.out.size)⟩
  · obtain ⟨n, hn⟩ : ∃ n, n + 2 = len - 1 := ⟨len - 3, by have := HN.out; omega⟩
    rw [← hn] at hA ⊢
    obtain ⟨A, a, s, fs, cur, hc1, hc2, hI, hm, c0, cell2, HOR⟩ := law_or n2 hA
    obtain ⟨q, rfl⟩ : ∃ q, c = q + 3 := ⟨c - 3, by omega⟩
    have hq : n ≤ q := by omega
    have HI := keep hI
    have HM := keep hm
    have HC0 := keep c0
    have HK := keep (show n + 30 < 1000000 by have := HN.out; omega)
    clear hA hI hm c0 HV HV1 h h' hn n1 n2 HN hc1 hc2
    go_wp2_with fail
    refine HOR.out.mono ?_
    rintro e w3 ⟨ra, rfl, h⟩
    have H3 := keep h
    have cell3 : w3.cell? ⟨g, 0, none⟩ = some (.int .i64 r0) := h.cell 0 ▸ HC0.out
    clear h HOR cell2
    go_wp2_with fail
    refine (live_not H3.out (by have := HK.out; omega) HI.out.lim (.tail _ HM.out) HI.out.fns).mono ?_
    rintro e w4 ⟨rb, rfl, h⟩
    have H4 := keep h
    have cell4 : w4.cell? ⟨g, 0, none⟩ = some (.int .i64 r0) := h.cell 0 ▸ HC0.out
    clear h H3 cell3
    go_wp2_with fail
    refine (live_and2 H4.out (by have := HK.out; omega) HI.out.lim (.tail _ (.head _)) (.head _) HI.out.fa ((fn_and a s).symm ▸ HI.out.fd)).mono ?_
    rintro e w5 ⟨rc, rfl, h⟩
    have H5 := keep (h.as (fn_and a s))
    have cell5 : w5.cell? ⟨g, 0, none⟩ = some (.int .i64 r0) := h.cell 0 ▸ HC0.out
    clear h H4 cell4
    go_wp2_with fail
    refine (live_not H5.out (by have := HK.out; omega) HI.out.lim (.head _) HI.out.fnd).mono ?_
    rintro e w6 ⟨rd, rfl, h⟩
    have H6 := keep h
    have cell6 : w6.cell? ⟨g, 0, none⟩ = some (.int .i64 r0) := h.cell 0 ▸ HC0.out
    clear h H5 cell5
    go_wp2_with fail
    refine (live_not H6.out (by have := HK.out; omega) HI.out.lim (.tail _ (.tail _ (.tail _ (.head _)))) HI.out.fna).mono ?_
    rintro e w7 ⟨rx, rfl, h⟩
    have H7 := keep h
    have cell7 : w7.cell? ⟨g, 0, none⟩ = some (.int .i64 r0) := h.cell 0 ▸ HC0.out
    clear h H6 cell6
    go_wp2_with fail
    refine (live_or2 H7.out (by have := HK.out; omega) HI.out.lim (.head _) (.tail _ (.tail _ (.tail _ (.tail _ (.tail _ HM.out))))) HI.out.fna ((fn_or a s).symm ▸ HI.out.fnd)).mono ?_
    rintro e w8 ⟨ry, rfl, h⟩
    have H8 := keep (h.as (fn_or a s))
    have cell8 : w8.cell? ⟨g, 0, none⟩ = some (.int .i64 r0) := h.cell 0 ▸ HC0.out
    have hdy : rd = ry := H8.out.one (f := notF (dif a s)) (.tail _ (.tail _ (.head _))) (.head _)
    subst hdy
    clear h H7 cell7
    go_wp2_with fail
    refine (live_or2 H8.out (by have := HK.out; omega) HI.out.lim (.tail _ (.tail _ (.tail _ (.tail _ (.tail _ (.head _)))))) (.tail _ (.tail _ (.tail _ (.head _)))) HI.out.fa ((fn_absorb a s).symm ▸ HI.out.fa)).mono ?_
    rintro e w9 ⟨rm, rfl, h⟩
    have H9 := keep (h.as (fn_absorb a s))
    have cell9 : w9.cell? ⟨g, 0, none⟩ = some (.int .i64 r0) := h.cell 0 ▸ HC0.out
    have hma : rm = ra := H9.out.one (f := a) (.head _) (.tail _ (.tail _ (.tail _ (.tail _ (.tail _ (.tail _ (.head _)))))))
    subst hma
    clear h H8 cell8
    go_wp2_with fail
    refine (live_or2 H9.out (by have := HK.out; omega) HI.out.lim (.tail _ (.tail _ (.tail _ (.tail _ (.tail _ (.tail _ (.tail _ HM.out))))))) (.tail _ (.tail _ (.tail _ (.tail _ (.tail _ (.head _)))))) HI.out.fs ((fn_middle s).symm ▸ HI.out.yes)).mono ?_
    rintro e w10 ⟨ro, rfl, h⟩
    have H10 := keep (h.as (fn_middle s))
    have cell10 : w10.cell? ⟨g, 0, none⟩ = some (.int .i64 r0) := h.cell 0 ▸ HC0.out
    have hro : ro = 1 := H10.out.ends.one (f := tt) (.tail _ (.tail _ (.head _))) (.tail _ (.head _))
    subst hro
    clear h H9 cell9
    go_wp2_with fail
    refine (live_and2 H10.out (by have := HK.out; omega) HI.out.lim (.tail _ (.tail _ (.tail _ (.tail _ (.tail _ (.tail _ (.tail _ (.tail _ HM.out)))))))) (.tail _ (.tail _ (.tail _ (.tail _ (.tail _ (.tail _ (.head _))))))) HI.out.fs ((fn_none s).symm ▸ HI.out.no)).mono ?_
    rintro e w11 ⟨rq, rfl, h⟩
    have H11 := keep (h.as (fn_none s))
    have cell11 : w11.cell? ⟨g, 0, none⟩ = some (.int .i64 r0) := h.cell 0 ▸ HC0.out
    have hrq : rq = 0 := H11.out.ends.one (f := ff) (.tail _ (.tail _ (.head _))) (.head _)
    subst hrq
    clear h H10 cell10
    go_wp2_with fail
    refine (live_diff H11.out (by have := HK.out; omega) HI.out.lim (.tail _ (.tail _ (.head _))) (.tail _ (.tail _ (.tail _ (.tail _ (.tail _ (.tail _ (.tail _ (.tail _ (.tail _ HM.out))))))))) HI.out.fd).mono ?_
    rintro e w12 ⟨ru, rfl, h⟩
    have H12 := keep h
    have cell12 : w12.cell? ⟨g, 0, none⟩ = some (.int .i64 r0) := h.cell 0 ▸ HC0.out
    have hru : ru = rc := H12.out.one (f := dif a s) (.head _) (.tail _ (.tail _ (.tail _ (.tail _ (.tail _ (.tail _ (.tail _ (.head _))))))))
    subst hru
    clear h H11 cell11
    go_wp2_with fail
    refine (live_ite H12.out.ends (by have := HK.out; omega) HI.out.lim (r0 := r0) (r1 := 0) (r2 := rm) (f0 := s) (f1 := ff) (f2 := a) (.tail _ (.tail _ (.tail _ (.tail _ (.tail _ (.tail _ (.tail _ (.tail _ (.tail _ (.tail _ (.tail _ (.tail _ HM.out)))))))))))) (.head _) (.tail _ (.tail _ (.tail _ (.tail _ (.tail _ (.head _)))))) HI.out.fd).mono ?_
    rintro e w13 ⟨rw', rfl, h⟩
    have H13 := keep h
    have hrw : rw' = ru := H13.out.one (f := dif a s) (.head _) (.tail _ (.tail _ (.tail _ (.head _))))
    subst hrw
    clear h H12 cell12
    go_wp2
    go_ret
    exact ⟨by simp, HB.out.trans (H13.out.out.mono HB.out.size)⟩

theorem laws_any (bits : Int) (a0 : Option Addr) (len cap : Nat) (ss : List ByteArray) (w : World) (hv : Came w a0 len cap ss) :
    Calls Try.prog 6 #[.int .i64 bits, .slice a0 len cap] w fun e w' => e = .returned (.bool true) ∧ Below w.heap.size w w' := by
  by_cases h3 : 3 ≤ len ∧ len ≤ 12
  · exact laws_mid bits a0 len cap ss w hv h3
  · refine laws_out bits a0 len cap w ?_
    by_cases h : (len : Int) < 3
    · exact Or.inl (eq_true h)
    · exact Or.inr ⟨eq_false h, eq_true (by omega)⟩
end Go.Proofs.Ytffngpdngjfcfaa
