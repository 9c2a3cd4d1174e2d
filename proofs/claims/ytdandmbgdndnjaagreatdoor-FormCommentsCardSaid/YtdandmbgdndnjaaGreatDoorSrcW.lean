/- The laws FormQuotes and FormComments, but for the sanity check that each ends in: a hypothesis says what it answers. -/
import Derived.Test.YtdandmbgdndnjaaGreatDoorSrcD
import Derived.Test.YtdandmbgdndnjaaGreatDoorSrcG
namespace Go.Proofs.YtdandmbgdndnjaaGreatDoor
open Go.RowKit

/-- What the sanity check answers in a world. -/
def Wakes (w : World) : Prop := Calls Tryz.prog 9 #[] w fun e w' => e = .returned (.bool true) ∧ Below w.heap.size w w'

set_option maxRecDepth 100000 in
set_option maxHeartbeats 1000000 in
theorem formQuotes_walk (s : ByteArray) (hs : s.size ≤ 9223372036854775807) (n : Int) (w : World) (hA : ∀ w', Below w.heap.size w w' → Wakes w') :
    Calls Tryz.prog 5 #[.string s, .int .i64 n] w fun e w' => e = .returned (.bool true) ∧ Below w.heap.size w w' := by
  have HA := Lib.hid hA
  clear hA
  by_cases hl : 9000 < s.size
  · have H := Lib.hid (HA.out w (Below.refl _ _))
    clear HA
    go_enter Tryz.func5, Tryz.ntmps5
    go_wp2_with (go_at_call 9; refine H.out.mono ?_; rintro e w1 ⟨rfl, hB⟩)
    go_ret
    exact ⟨rfl, hB⟩
  · generalize hq : quoQ s.data.toList n = b
    have Hq := Lib.hid hq
    clear hq
    have H1 := Lib.hid (Quoted_c s (by omega) n w)
    cases b
    all_goals
      go_enter Tryz.func5, Tryz.ntmps5
      go_wp2_with fail
      refine H1.out.mono ?_
      rw [Hq.out]
      rintro e w1 ⟨rfl, rfl⟩
      go_wp2_with fail
      refine (rQuoted_c s (by omega) n _).mono ?_
      rw [Hq.out]
      rintro e w1 ⟨rfl, hB⟩
      go_wp2_with fail
      refine (show Calls Tryz.prog 9 #[] w1 _ from HA.out w1 hB).mono ?_
      rintro e w2 ⟨rfl, hB2⟩
      go_wp2
      go_ret
      exact ⟨rfl, bt_ hB hB2⟩

set_option maxRecDepth 100000 in
set_option maxHeartbeats 1000000 in
theorem formComments_walk (s : ByteArray) (hs : s.size ≤ 9223372036854775807) (old : Bool) (w : World) (hA : Wakes w) :
    Calls Tryz.prog 4 #[.string s, .bool old] w fun e w' => e = .returned (.bool true) ∧ Below w.heap.size w w' := by
  have HA := Lib.hid (show Calls Tryz.prog 9 #[] w _ from hA)
  clear hA
  by_cases hl : 9000 < s.size
  · go_enter Tryz.func4, Tryz.ntmps4
    go_wp2_with (go_at_call 9; refine HA.out.mono ?_; rintro e w1 ⟨rfl, hB⟩)
    go_ret
    exact ⟨rfl, hB⟩
  · generalize hq : cmQ s.data.toList old = b
    have Hq := Lib.hid hq
    clear hq
    cases b
    all_goals
      go_enter Tryz.func4, Tryz.ntmps4
      go_wp2_with fail
      refine (Comment_c s old _).mono ?_
      rw [Hq.out]
      rintro e w1 ⟨rfl, rfl⟩
      go_wp2_with fail
      refine (rComment_c s (by omega) old _).mono ?_
      rw [Hq.out]
      rintro e w1 ⟨rfl, rfl⟩
      go_wp2_with fail
      refine HA.out.mono ?_
      rintro e w2 ⟨rfl, hB2⟩
      go_wp2
      go_ret
      exact ⟨rfl, hB2⟩
end Go.Proofs.YtdandmbgdndnjaaGreatDoor
