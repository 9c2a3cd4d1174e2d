/- Contract of package float's overflow, for every mode and sign. -/
import Derived.Test.YtfdenbgmogojeaaDoorFloE
namespace Go.Proofs.YtfdenbgmogojeaaDoor
open Go.RowKit

set_option maxHeartbeats 2000000 in
theorem overflow_c (W D E mode s : Int) (h : KL W D E) (hm : Mode mode) (hs : Sgn s) (w : World) :
    Calls Tryd.prog 115 #[lay W D E, .int .i64 mode, .int .i64 s] w fun e w' => e = .returned (.tuple #[.int .i64 (ovF W D mode s), .int .i64 20]) ∧ Below w.heap.size w w' := by
  rcases hm with rfl | rfl | rfl | rfl <;> rcases hs with rfl | rfl
  all_goals
    go_enter Tryd.func115, Tryd.ntmps115
    go_wp2_with (first | (go_at_call 90; refine (infinite_c W D E _ h (by simp) _).mono ?_; rintro e w1 ⟨rfl, hb⟩) | (go_at_call 122; refine (greatest_c W D E _ h (by simp) _).mono ?_; rintro e w1 ⟨rfl, hb⟩) | go_in)
    go_ret2
    exact ⟨rfl, bt (by go_grown) hb⟩

end Go.Proofs.YtfdenbgmogojeaaDoor
