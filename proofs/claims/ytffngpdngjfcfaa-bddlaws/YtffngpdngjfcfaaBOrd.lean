/-
  orderOf of one node; root, List, Size of a ref that is told; two lists that are the same.
-/
import Derived.Test.YtffngpdngjfcfaaBNodes
import Derived.Test.YtffngpdngjfcfaaBAns
namespace Go.Proofs.Ytffngpdngjfcfaa
open Go.RowKit Go.Maps
open Bd (Nd)

theorem make_order (w : World) : (Instr.makeMap 151 none).run Try.prog w = .ok (.map (some w.heap.size)) (w.alloc (.map #[] 0)) := by kernel_rfl

theorem ord_new {w : World} {lv : Value} {L : List Nd} {least : Nat} (hlist : w.ownsRow 0 82 3 lv L.length (flat L)) :
    OrdAt ((w.alloc (.map #[] 0)).alloc (.cells #[lv, i6 least, .map (some w.heap.size)] 153)) (w.heap.size + 1) w.heap.size lv L least [] := by
  have e1 : (w.alloc (.map #[] 0)).heap.size = w.heap.size + 1 := by simp
  refine ⟨?_, (hlist.alloc _).alloc _, fun _ => none, ?_, fun n => ⟨fun i h => by simp at h, fun _ => rfl⟩, fun x h => by simp at h⟩
  · have := heap_alloc_new (w.alloc (.map #[] 0)) (.cells #[lv, i6 least, .map (some w.heap.size)] 153)
    rw [e1] at this
    exact this
  · exact (MapOf.new Try.prog 3 3 w).same (heap_alloc_old _ _ (by omega))

set_option maxRecDepth 4000 in
set_option maxHeartbeats 1000000 in
theorem orderOf_one {w : World} {lv : Value} {L : List Nd} (hlist : w.ownsRow 0 82 3 lv L.length (flat L)) (hL : Falls L) (hlen : L.length ≤ 1073741824) (n gv cap : Nat) (hn : n < L.length + 2) (hg : gv < w.heap.size) (hc : w.cell? ⟨gv, 0, none⟩ = some (i6 n)) :
    Calls Try.prog 62 #[lv, .int .i64 2, .slice (some ⟨gv, 0, none⟩) 1 cap] w fun e w' => ∃ ob pb, e = .returned (.pointer (some ⟨ob, 0, none⟩)) ∧ OrdAt w' ob pb lv L 2 (vis L 2 (n + 1) n []) ∧ Below w.heap.size w w' := by
  have HO := keep (ord_new (least := 2) hlist)
  have hmk := make_order
  have c1 : ((w.alloc (.map #[] 0)).alloc (.cells #[lv, .int .i64 2, .map (some w.heap.size)] 153)).cell? ⟨gv, 0, none⟩ = some (i6 n) := by
    rw [World.cell?_of_block (heap_alloc_old _ _ (by simp; omega)), World.cell?_of_block (heap_alloc_old _ _ hg)]; exact hc
  obtain ⟨ao, cp, rfl⟩ : ∃ ao cp, lv = .slice ao L.length cp := by
    rcases hlist.2 with ⟨h1, h2⟩ | ⟨g, cp, cur, h1, _⟩
    · exact ⟨none, 0, by rw [h1, h2]⟩
    · exact ⟨_, _, h1⟩
  have HL := keep hL
  clear hlist hL
  go_enter Try.func62, Try.ntmps62
  go_wp2
  refine wp_loop_rounds 2 ?_
  rw [rounds_succ]
  go_wp2_with (go_at_call 89; refine (visit_any (w.heap.size + 1) w.heap.size _ L 2 HL.out hlen (by omega) (by omega) (n + 1) n [] _ (by omega) hn HO.out (by simp) (by simp)).mono ?_; rintro e w1 ⟨rfl, hO1, hon⟩; have HO1 := keep hO1; have HON := keep hon; clear hO1 hon)
  rw [rounds_succ]
  go_wp2
  go_ret
  refine ⟨_, _, rfl, HO1.out, ?_⟩
  have b0 : Below w.heap.size w ((w.alloc (.map #[] 0)).alloc (.cells #[.slice ao L.length cp, .int .i64 2, .map (some w.heap.size)] 153)) := ((Below.refl _ _).alloc (Nat.le_refl _) _).alloc (by simp) _
  have h := HON.out
  exact ⟨h.os.trans b0.os, h.tape.trans b0.tape, h.output.trans b0.output, Nat.le_trans b0.size h.size, fun k hk => (h.block k (Nat.lt_of_lt_of_le hk b0.size) (by omega)).trans (b0.block k hk)⟩
end Go.Proofs.Ytffngpdngjfcfaa
