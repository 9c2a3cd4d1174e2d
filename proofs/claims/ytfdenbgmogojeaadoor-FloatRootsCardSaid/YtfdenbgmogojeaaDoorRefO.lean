/- Contracts of quadratref01's Digits, Bias, least, all, Infinite, Zero, greatest and goesUp, for every kind, mode and sign. -/
import Derived.Test.YtfdenbgmogojeaaDoorRefN
import Derived.Test.YtfdenbgmogojeaaDoorRefC
namespace Go.Proofs.YtfdenbgmogojeaaDoor
open Go.RowKit

set_option maxHeartbeats 1000000 in
theorem rDigits_c (k W D E : Int) (hk : KK k W D E) (w : World) :
    Calls Tryd.prog 67 #[.int .i64 k] w fun e w' => e = .returned (.int .i64 D) ∧ w = w' := by
  rcases hk with ⟨rfl, rfl, rfl, rfl⟩ | ⟨rfl, rfl, rfl, rfl⟩ | ⟨rfl, rfl, rfl, rfl⟩
  all_goals
    go_enter Tryd.func67, Tryd.ntmps67
    go_wp2
    go_ret
    exact ⟨rfl, rfl⟩
set_option maxHeartbeats 1000000 in
theorem rDigits_no (k : Int) (h2 : (k == 2) = false) (h4 : (k == 4) = false) (h8 : (k == 8) = false) (w : World) :
    Calls Tryd.prog 67 #[.int .i64 k] w fun e w' => e = .returned (.int .i64 0) ∧ w = w' := by
  go_enter Tryd.func67, Tryd.ntmps67
  go_wp2
  go_ret
  exact ⟨rfl, rfl⟩

/-- The bias of a kind. -/
def biasF (D : Int) : Int := 2 - low D - D
set_option maxHeartbeats 1000000 in
theorem rBias_c (k W D E : Int) (hk : KK k W D E) (w : World) :
    Calls Tryd.prog 99 #[.int .i64 k] w fun e w' => e = .returned (.int .i64 (biasF D)) ∧ w = w' := by
  rcases hk with ⟨rfl, rfl, rfl, rfl⟩ | ⟨rfl, rfl, rfl, rfl⟩ | ⟨rfl, rfl, rfl, rfl⟩
  all_goals
    go_enter Tryd.func99, Tryd.ntmps99
    go_wp2
    go_ret
    exact ⟨rfl, rfl⟩
set_option maxHeartbeats 1000000 in
theorem rleast_c (k W D E : Int) (hk : KK k W D E) (w : World) :
    Calls Tryd.prog 98 #[.int .i64 k] w fun e w' => e = .returned (.int .i64 (low D)) ∧ Below w.heap.size w w' := by
  rcases hk with ⟨rfl, rfl, rfl, rfl⟩ | ⟨rfl, rfl, rfl, rfl⟩ | ⟨rfl, rfl, rfl, rfl⟩
  all_goals
    go_enter Tryd.func98, Tryd.ntmps98
    go_wp2_with (first | go_in | fail)
    go_ret
    exact ⟨rfl, Below.refl _ _⟩
set_option maxHeartbeats 1000000 in
theorem rall_c (k W D E : Int) (hk : KK k W D E) (w : World) :
    Calls Tryd.prog 100 #[.int .i64 k] w fun e w' => e = .returned (.int .i64 (endl D / hid D)) ∧ Below w.heap.size w w' := by
  rcases hk with ⟨rfl, rfl, rfl, rfl⟩ | ⟨rfl, rfl, rfl, rfl⟩ | ⟨rfl, rfl, rfl, rfl⟩
  all_goals
    go_enter Tryd.func100, Tryd.ntmps100
    go_wp2_with (first | go_in | fail)
    go_ret
    exact ⟨rfl, Below.refl _ _⟩

theorem endl_parts (W D E : Int) (h : KL W D E) : endl D = (endl D / hid D) * hid D + 0 ∧ endl D - 1 = (endl D / hid D - 1) * hid D + (hid D - 1) ∧ 0 ≤ endl D / hid D ∧ 0 ≤ endl D / hid D - 1 ∧ 0 ≤ hid D - 1 ∧ hid D - 1 < hid D ∧ 0 < hid D ∧ endl D < hf W := by
  rcases h with ⟨rfl, rfl, rfl⟩ | ⟨rfl, rfl, rfl⟩ | ⟨rfl, rfl, rfl⟩ <;> decide
set_option maxHeartbeats 1000000 in
theorem rInfinite_c (k W D E s : Int) (hk : KK k W D E) (hs : Sgn s) (w : World) :
    Calls Tryd.prog 54 #[.int .i64 k, .int .i64 s] w fun e w' => e = .returned (.int .i64 (jn W s (endl D))) ∧ Below w.heap.size w w' := by
  obtain ⟨q1, q2, q3, q4, q5, q6, q7, q8⟩ := endl_parts W D E hk.kl
  have hb := Lib.hid (fun w => rbits_c k W D E s (endl D / hid D) 0 hk hs q3 (by omega) (Int.le_refl _) q7 w)
  rw [← q1] at hb
  have ha := Lib.hid (fun w => rall_c k W D E hk w)
  clear q1 q2 q3 q4 q5 q6 q7 q8
  generalize endl D / hid D = A at *
  go_enter Tryd.func54, Tryd.ntmps54
  go_wp2_with fail
  refine (ha.out _).mono ?_
  rintro e w1 ⟨rfl, hb1⟩
  go_wp2_with fail
  refine (hb.out _).mono ?_
  rintro e w2 ⟨rfl, hb2⟩
  go_wp2_with fail
  go_ret
  exact ⟨rfl, bt hb1 hb2⟩
set_option maxHeartbeats 1000000 in
theorem rZero_c (k W D E s : Int) (hk : KK k W D E) (hs : Sgn s) (w : World) :
    Calls Tryd.prog 59 #[.int .i64 k, .int .i64 s] w fun e w' => e = .returned (.int .i64 (jn W s 0)) ∧ Below w.heap.size w w' := by
  obtain ⟨q1, q2, q3, q4, q5, q6, q7, q8⟩ := endl_parts W D E hk.kl
  have hf0 : 0 < hf W := by rcases hk.kl with ⟨rfl, rfl, rfl⟩ | ⟨rfl, rfl, rfl⟩ | ⟨rfl, rfl, rfl⟩ <;> decide
  have hb := Lib.hid (fun w => rbits_c k W D E s 0 0 hk hs (Int.le_refl _) (by omega) (Int.le_refl _) q7 w)
  rw [show 0 * hid D + 0 = 0 by omega] at hb
  clear q1 q2 q3 q4 q5 q6 q7 q8
  go_enter Tryd.func59, Tryd.ntmps59
  go_wp2_with fail
  refine (hb.out _).mono ?_
  rintro e w2 ⟨rfl, hb2⟩
  go_wp2_with fail
  go_ret
  exact ⟨rfl, hb2⟩
set_option maxHeartbeats 1000000 in
theorem rgreatest_c (k W D E s : Int) (hk : KK k W D E) (hs : Sgn s) (w : World) :
    Calls Tryd.prog 102 #[.int .i64 k, .int .i64 s] w fun e w' => e = .returned (.int .i64 (jn W s (endl D - 1))) ∧ Below w.heap.size w w' := by
  obtain ⟨q1, q2, q3, q4, q5, q6, q7, q8⟩ := endl_parts W D E hk.kl
  have hb := Lib.hid (fun w => rbits_c k W D E s (endl D / hid D - 1) (hid D - 1) hk hs q4 (by omega) q5 q6 w)
  rw [← q2] at hb
  have ha := Lib.hid (fun w => rall_c k W D E hk w)
  have hd := Lib.hid (fun w => rDigits_c k W D E hk w)
  clear q1 q2 q3 q4 q5 q6 q7 q8
  rcases hk with ⟨rfl, rfl, rfl, rfl⟩ | ⟨rfl, rfl, rfl, rfl⟩ | ⟨rfl, rfl, rfl, rfl⟩
  all_goals
    first | rw [show endl 11 / hid 11 = 31 by decide] at ha hb | rw [show endl 24 / hid 24 = 255 by decide] at ha hb | rw [show endl 53 / hid 53 = 2047 by decide] at ha hb
    first | rw [show (31 : Int) - 1 = 30 by decide, show hid 11 - 1 = 1023 by decide] at hb | rw [show (255 : Int) - 1 = 254 by decide, show hid 24 - 1 = 8388607 by decide] at hb | rw [show (2047 : Int) - 1 = 2046 by decide, show hid 53 - 1 = 4503599627370495 by decide] at hb
    go_enter Tryd.func102, Tryd.ntmps102
    go_wp2_with fail
    refine (ha.out _).mono ?_
    rintro e w1 ⟨rfl, hb1⟩
    go_wp2_with fail
    refine (hd.out _).mono ?_
    rintro e w2 ⟨rfl, rfl⟩
    go_wp2_with fail
    refine (hb.out _).mono ?_
    rintro e w3 ⟨rfl, hb2⟩
    go_wp2_with fail
    go_ret
    exact ⟨rfl, bt hb1 hb2⟩

/-- Does what lies between two neighbours go to the greater size? -/
def goesF (mode sign half : Int) (odd : Bool) : Bool :=
  if mode = 0 then (decide (half > 0) || (half == 0 && odd)) else if mode = 2 then sign == 1 else if mode = 3 then sign == 0 else false
set_option maxHeartbeats 1000000 in
theorem goesUp_c (mode sign half : Int) (odd : Bool) (hm : Mode mode) (hs : Sgn sign) (hh : half = -1 ∨ half = 0 ∨ half = 1) (w : World) :
    Calls Tryd.prog 86 #[.int .i64 mode, .int .i64 sign, .int .i64 half, .bool odd] w fun e w' => e = .returned (.bool (goesF mode sign half odd)) ∧ w = w' := by
  rcases hm with rfl | rfl | rfl | rfl <;> rcases hs with rfl | rfl <;> rcases hh with rfl | rfl | rfl <;> cases odd
  all_goals
    go_enter Tryd.func86, Tryd.ntmps86
    go_wp2
    go_ret
    exact ⟨rfl, rfl⟩
end Go.Proofs.YtfdenbgmogojeaaDoor
