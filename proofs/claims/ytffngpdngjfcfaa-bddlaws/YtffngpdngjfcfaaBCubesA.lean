/-
  The laws' own cubes: the walk.
-/
import Derived.Test.YtffngpdngjfcfaaBCubes
namespace Go.Proofs.Ytffngpdngjfcfaa
open Go.RowKit Go.Maps
open Bd (Nd)

set_option maxRecDepth 4000 in
set_option maxHeartbeats 8000000 in
theorem cubes_any {nb M : Nat} (A : Bd.Fam nb M) (a0 : Option Addr) (len cap : Nat) (ss : List ByteArray) (w : World) (h1 : 1 ≤ nb) (h2 : nb ≤ 128) (hlim : nb * M ≤ 1048576) (hlen : len ≤ 1000) (hv : Came w a0 len cap ss)
    (hA : ∀ i, i < len → (ss.getD i ByteArray.empty).size = nb → Cu.right (ss.getD i ByteArray.empty).data.toList = true → A.F 0 (suf (ss.getD i ByteArray.empty) 0)) :
    Calls Try.prog 18 #[.int .i64 (nb : Int), .slice a0 len cap] w fun e w' => (∃ p v, e = .returned (.tuple #[p, v, .bool false]) ∧ Below w.heap.size w w') ∨ (∃ tb v, e = .returned (.tuple #[.pointer (some ⟨tb, 0, none⟩), v, .bool true]) ∧ ∃ y L roots ls ns, Made A w.heap.size w w' tb ss len v y L roots ls ns) := by
  have HV := keep hv
  have HA := keep hA
  have H12 := keep (And.intro h1 (And.intro h2 hlim))
  have HLEN := keep hlen
  obtain ⟨i0, hi, hz0, hz1, hz2⟩ := info_parts Try.infoRef
  have HI := keep hi
  have HZ0 := keep hz0
  have HZ1 := keep hz1
  have HZ2 := keep hz2
  have hlenI : (len : Int) ≤ 1000 := by omega
  clear hv hA h1 h2 hlim hlen hi hz0 hz1 hz2
  go_enter Try.func18, Try.ntmps18
  go_wp2_with fail
  refine (made_new w nb H12.out.1 H12.out.2.1 A ss).mono ?_
  rintro e w1 ⟨tb, rfl, h0⟩
  have H0 := keep h0
  clear h0
  go_wp2_with fail
  go_loopw [9, 10] (fun v i wr => ∃ (k : Nat) (ao : Option Addr) (cap1 : Nat), k ≤ len ∧ v = .slice ao k cap1 ∧ i = .int .i64 k ∧ Hid (∃ y L roots ls ns, Made A w.heap.size w wr tb ss k (.slice ao k cap1) y L roots ls ns)) (fun _ i _ => len - (intOf i).toNat)
  case atStart => exact ⟨0, none, 0, Nat.zero_le _, rfl, rfl, H0⟩
  case round =>
    clear H0
    obtain ⟨k, ao, cap1, hk, rfl, rfl, H⟩ := hrel
    by_cases hlt : k < len
    · obtain ⟨g, o, hg, hgl, hc, hks⟩ := text_of HV.out hlt
      obtain ⟨y, L, roots, ls, ns, hM⟩ := H.out
      have hcr : wr.cell? ⟨g, o + k, none⟩ = some (.string (ss.getD k ByteArray.empty)) := by rw [hM.below.cell hgl]; exact hc
      have Q := keep (made_cube hM (by have := HLEN.out; omega) H12.out.2.2 (HA.out k hlt))
      subst hg
      have hkl : (k : Int) < (len : Int) := by omega
      have hk0 : (0 : Int) ≤ (k : Int) := by omega
      have HLT := keep hlt
      clear hlt hc hgl hks H hM
      generalize ss.getD k ByteArray.empty = t at hcr Q
      go_wp2_with fail
      refine Q.out.mono ?_
      rintro e w3 (⟨r, rfl, h⟩ | ⟨rfl, h⟩)
      · obtain ⟨y', L', roots', ls', ns', m', h⟩ := h.ex
        have HR := keep h
        clear h Q hcr
        have HROW : Hid (∀ o, (w3.alloc o).ownsRow 0 25 1 (.slice ao k cap1) k (nums ls')) := fun o => HR.out.2.2.2.2.2.2.2.2.1.alloc o
        have hk1 : k ≤ 1000 := by have := HLEN.out; omega
        go_wp2_with (first | (at_builtin; refine wpList_append_lies _ rfl (.tmp 42) (.tmp 44) 55 rfl 0 25 i0 (.int .i64 0) 1 8 Try.underlying55 HI.out HZ0.out HZ1.out HZ2.out rfl (by decide) (.slice ao k cap1) k (nums ls') rfl (HROW.out _) ⟨w3.heap.size, 0, none⟩ 1 1 [.int .i64 r] rfl rfl (World.news_of_block (heap_alloc_new w3 _)) (by simp [Value.oneCell']) (by decide) (by unfold maxLen; omega) (by omega) (Nat.zero_le _) (w3.heap.size + 1) (by simp) ?_; intro g4 cap4 w4 hown4 hgrow4 hat4 hlt4))
        go_roundw
        case rel =>
          refine ⟨k + 1, some ⟨g4, 0, none⟩, cap4, by have := HLT.out; omega, rfl, by go_num, ?_⟩
          exact made_append ⟨y', L', roots', ns', m', HR.out⟩ hown4 hgrow4 hat4
        case measure => have := HLT.out; simp [intOf]; omega
      · have HR := keep h
        clear h Q hcr
        go_wp2
        go_ret3
        exact Or.inl ⟨_, _, rfl, HR.out⟩
    · have hkn : k = len := by omega
      subst hkn
      go_wp2
      go_ret3
      exact Or.inr ⟨tb, _, rfl, H.out⟩
end Go.Proofs.Ytffngpdngjfcfaa
