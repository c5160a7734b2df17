/-
  The laws WordsSay and WordsBack: of any texts they answer true.
-/
import Derived.Test.YtalmcdhohoplpaaDoorWRefY
namespace Go.Proofs.YtalmcdhohoplpaaDoor
open Go.RowKit

theorem RSay_any (v : Value) (ls : List (List UInt8)) (w : World) (h : Txs w v ls) (hn : ls.length ≤ 60) (h4 : ∀ l ∈ ls, l.length ≤ 4000) :
    Calls Tryd.prog 21 #[v] w fun e w' => e = .returned (.tuple #[.string (tx (sayS ls)), .int .i64 (sayE ls)]) ∧ Below w.heap.size w w' := by
  obtain ⟨ao, cap, rfl, hr⟩ := h
  rcases hr with rfl | ⟨g, o, rfl, hg, hc⟩
  · exact RSay_none ao cap w
  · exact RSay_some ls g o cap w hg hc hn h4

set_option maxRecDepth 4000 in
set_option maxHeartbeats 1000000 in
theorem says_any (a0 : Option Addr) (len cap : Nat) (ss : List ByteArray) (w : World) (hv : Came w a0 len cap ss) :
    Calls Tryd.prog 5 #[.slice a0 len cap] w fun e w' => e = .returned (.bool true) ∧ Below w.heap.size w w' := by
  have hn := fewL_len ss len
  have h4 : ∀ l ∈ fewL ss len, l.length ≤ 4000 := fewT_short _ _
  have q0 := few_any a0 len cap ss w hv
  obtain ⟨ls, hls⟩ : ∃ ls, ls = fewL ss len := ⟨_, rfl⟩
  rw [← hls] at hn h4 q0
  clear hls hv
  have q1 := fun (v : Value) (w : World) (h : Txs w v ls) => Say_any v ls w h hn h4
  have q2 := fun (v : Value) (w : World) (h : Txs w v ls) => RSay_any v ls w h hn h4
  obtain ⟨t, ht⟩ : ∃ t, t = sayS ls := ⟨_, rfl⟩
  obtain ⟨d, hd⟩ : ∃ d, d = sayE ls := ⟨_, rfl⟩
  rw [← ht, ← hd] at q1 q2
  clear ht hd hn h4
  go_enter Tryd.func5, Tryd.ntmps5
  go_wp2_with fail
  refine q0.mono ?_
  clear q0
  rintro e w1 ⟨v, rfl, HT, hb1⟩
  go_wp2_with fail
  refine (q1 v w1 HT.out).mono ?_
  rintro e w2 ⟨rfl, hb2⟩
  go_wp2_with fail
  refine (q2 v w2 (HT.out.below hb2)).mono ?_
  rintro e w3 ⟨rfl, hb3⟩
  have HB := hid (below_two (below_two hb1 hb2) hb3)
  clear hb1 hb2 hb3 q1 q2
  go_wp2_with (first | (go_at_call 9; refine (alive_any _).mono ?_; rintro e w9 ⟨rfl, hb9⟩))
  go_ret
  exact ⟨rfl, below_two HB.out hb9⟩
end Go.Proofs.YtalmcdhohoplpaaDoor
