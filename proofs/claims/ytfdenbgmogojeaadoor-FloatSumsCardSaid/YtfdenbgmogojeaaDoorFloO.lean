/- Contracts of package float's Neg and Abs: each returns what the plain mathematics says, for every kind and every float of it, and says of what is none. -/
import Derived.Test.YtfdenbgmogojeaaDoorFloC
namespace Go.Proofs.YtfdenbgmogojeaaDoor
open Go.RowKit

/-- The opposite, and the size as a float. -/
def negF (W D a : Int) : Int := if cls D (siz W a) = 4 then jn W 0 (qz D) else jn W (1 - sgn W a) (siz W a)
def absF (W D a : Int) : Int := if cls D (siz W a) = 4 then jn W 0 (qz D) else jn W 0 (siz W a)


set_option maxHeartbeats 400000 in
theorem neg1_c (s : Int) (hs : s = 0 ∨ s = 1) (w : World) : Calls Tryd.prog 93 #[.int .i64 s] w fun e w' => e = .returned (.int .i64 (1 - s)) ∧ Below w.heap.size w w' := by
  rcases hs with rfl | rfl
  · go_enter Tryd.func93, Tryd.ntmps93
    go_wp2
    go_ret
    exact ⟨rfl, Below.refl _ _⟩
  · go_enter Tryd.func93, Tryd.ntmps93
    go_wp2
    go_ret
    exact ⟨rfl, Below.refl _ _⟩
set_option maxHeartbeats 400000 in
theorem abs1_c (s : Int) (w : World) : Calls Tryd.prog 94 #[.int .i64 s] w fun e w' => e = .returned (.int .i64 0) ∧ Below w.heap.size w w' := by
  go_enter Tryd.func94, Tryd.ntmps94
  go_wp2
  go_ret
  exact ⟨rfl, Below.refl _ _⟩

set_option maxHeartbeats 1000000 in
theorem Neg_no (k a : Int) (h2 : (k == 2) = false) (h4 : (k == 4) = false) (h8 : (k == 8) = false) (w : World) :
    Calls Tryd.prog 38 #[.int .i64 k, .int .i64 a] w fun e w' => e = .returned (.tuple #[.int .i64 0, .int .i64 2]) ∧ Below w.heap.size w w' := by
  go_enter Tryd.func38, Tryd.ntmps38
  go_wp2_with (go_at_call 92; go_in)
  refine (layoutOf_no k h2 h4 h8 _).mono ?_
  rintro e w1 ⟨rfl, hb⟩
  obtain ⟨hB, hc0, hc1, hc2⟩ := keepA (a := .int .i64 0) (b := .int .i64 0) (c := .int .i64 0) (t := 48) hb
  go_wp2
  go_ret2
  exact ⟨rfl, hB⟩

set_option maxHeartbeats 1000000 in
theorem Neg_out (k W D E a : Int) (hk : KK k W D E) (hv : okB W a = false) (w : World) :
    Calls Tryd.prog 38 #[.int .i64 k, .int .i64 a] w fun e w' => e = .returned (.tuple #[.int .i64 0, .int .i64 2]) ∧ Below w.heap.size w w' := by
  have h := hk.kl
  have Hk := Lib.hid hk; clear hk
  go_enter Tryd.func38, Tryd.ntmps38
  go_wp2_with (go_at_call 92; go_in)
  refine (layoutOf_c k W D E Hk.out _).mono ?_
  rintro e wa ⟨rfl, hb⟩
  obtain ⟨hB, hc0, hc1, hc2⟩ := keepA (a := .int .i64 W) (b := .int .i64 D) (c := .int .i64 E) (t := 48) hb
  go_wp2_with fail
  refine (holds_c W D E a h _).mono ?_
  rintro e w1 ⟨rfl, hb⟩
  obtain ⟨hB, hc0, hc1, hc2⟩ := keepL ⟨hB, hc0, hc1, hc2⟩ hb
  go_wp2
  go_ret2
  exact ⟨rfl, hB⟩

set_option maxHeartbeats 2000000 in
theorem Neg_c (k W D E a : Int) (hk : KK k W D E) (hv : okB W a = true) (w : World) :
    Calls Tryd.prog 38 #[.int .i64 k, .int .i64 a] w fun e w' => e = .returned (.tuple #[.int .i64 (negF W D a), .int .i64 0]) ∧ Below w.heap.size w w' := by
  have h := hk.kl
  have Hk := Lib.hid hk; clear hk
  have hz := siz_b W D E a h
  by_cases c4 : cls D (siz W a) = 4
  · have e4 : (cls D (siz W a) == 4) = true := by simp [c4]
    have hN := Lib.hid (show negF W D a = jn W 0 (qz D) by simp [negF, c4])
    clear c4
    go_enter Tryd.func38, Tryd.ntmps38
    go_wp2_with (go_at_call 92; go_in)
    refine (layoutOf_c k W D E Hk.out _).mono ?_
    rintro e wa ⟨rfl, hb⟩
    obtain ⟨hB, hc0, hc1, hc2⟩ := keepA (a := .int .i64 W) (b := .int .i64 D) (c := .int .i64 E) (t := 48) hb
    go_wp2_with fail
    refine (holds_c W D E a h _).mono ?_
    rintro e w1 ⟨rfl, hb⟩
    obtain ⟨hB, hc0, hc1, hc2⟩ := keepL ⟨hB, hc0, hc1, hc2⟩ hb
    go_wp2_with fail
    refine (class_c W D E a h _).mono ?_
    rintro e w1 ⟨rfl, hb⟩
    obtain ⟨hB, hc0, hc1, hc2⟩ := keepL ⟨hB, hc0, hc1, hc2⟩ hb
    go_wp2_with fail
    refine (quiet_c W D E h _).mono ?_
    rintro e w1 ⟨rfl, hb⟩
    obtain ⟨hB, hc0, hc1, hc2⟩ := keepL ⟨hB, hc0, hc1, hc2⟩ hb
    go_wp2
    go_ret2
    exact ⟨by rw [hN.out]; rfl, hB⟩
  · have e4 : (cls D (siz W a) == 4) = false := by simp [c4]
    have hN := Lib.hid (show negF W D a = jn W (1 - sgn W a) (siz W a) by simp [negF, c4])
    have hs : sgn W a = 0 ∨ sgn W a = 1 := by unfold sgn; split <;> simp
    have hj : 1 - sgn W a = 0 ∨ 1 - sgn W a = 1 := by omega
    clear c4
    go_enter Tryd.func38, Tryd.ntmps38
    go_wp2_with (go_at_call 92; go_in)
    refine (layoutOf_c k W D E Hk.out _).mono ?_
    rintro e wa ⟨rfl, hb⟩
    obtain ⟨hB, hc0, hc1, hc2⟩ := keepA (a := .int .i64 W) (b := .int .i64 D) (c := .int .i64 E) (t := 48) hb
    go_wp2_with fail
    refine (holds_c W D E a h _).mono ?_
    rintro e w1 ⟨rfl, hb⟩
    obtain ⟨hB, hc0, hc1, hc2⟩ := keepL ⟨hB, hc0, hc1, hc2⟩ hb
    go_wp2_with fail
    refine (class_c W D E a h _).mono ?_
    rintro e w1 ⟨rfl, hb⟩
    obtain ⟨hB, hc0, hc1, hc2⟩ := keepL ⟨hB, hc0, hc1, hc2⟩ hb
    go_wp2_with fail
    go_region_held3 (fun w' => Below w.heap.size w w' ∧ w'.cell? ⟨wa.heap.size, 0, none⟩ = some (.int .i64 W) ∧ w'.cell? ⟨wa.heap.size, 1, none⟩ = some (.int .i64 D) ∧ w'.cell? ⟨wa.heap.size, 2, none⟩ = some (.int .i64 E)) (first | exact keepD ⟨hB, hc0, hc1, hc2⟩ | exact keepL (by assumption) hb)
      (first | (go_at_call 76; refine (sign_c W D E a h hv _).mono ?_; rintro e w' ⟨rfl, hb⟩) | (go_at_call 93; refine (neg1_c (sgn W a) hs _).mono ?_; rintro e w' ⟨rfl, hb⟩) | (go_at_call 77; refine (size_c W D E a h _).mono ?_; rintro e w' ⟨rfl, hb⟩) | (go_at_call 80; refine (join_c W D E (1 - sgn W a) (siz W a) h hj hz.1 hz.2 _).mono ?_; rintro e w' ⟨rfl, hb⟩))
    rename_i hH
    obtain ⟨hB, hc0, hc1, hc2⟩ := hH
    go_wp2
    go_ret2
    exact ⟨by rw [hN.out]; rfl, hB⟩

set_option maxHeartbeats 1000000 in
theorem Abs_no (k a : Int) (h2 : (k == 2) = false) (h4 : (k == 4) = false) (h8 : (k == 8) = false) (w : World) :
    Calls Tryd.prog 40 #[.int .i64 k, .int .i64 a] w fun e w' => e = .returned (.tuple #[.int .i64 0, .int .i64 2]) ∧ Below w.heap.size w w' := by
  go_enter Tryd.func40, Tryd.ntmps40
  go_wp2_with (go_at_call 92; go_in)
  refine (layoutOf_no k h2 h4 h8 _).mono ?_
  rintro e w1 ⟨rfl, hb⟩
  obtain ⟨hB, hc0, hc1, hc2⟩ := keepA (a := .int .i64 0) (b := .int .i64 0) (c := .int .i64 0) (t := 48) hb
  go_wp2
  go_ret2
  exact ⟨rfl, hB⟩

set_option maxHeartbeats 1000000 in
theorem Abs_out (k W D E a : Int) (hk : KK k W D E) (hv : okB W a = false) (w : World) :
    Calls Tryd.prog 40 #[.int .i64 k, .int .i64 a] w fun e w' => e = .returned (.tuple #[.int .i64 0, .int .i64 2]) ∧ Below w.heap.size w w' := by
  have h := hk.kl
  have Hk := Lib.hid hk; clear hk
  go_enter Tryd.func40, Tryd.ntmps40
  go_wp2_with (go_at_call 92; go_in)
  refine (layoutOf_c k W D E Hk.out _).mono ?_
  rintro e wa ⟨rfl, hb⟩
  obtain ⟨hB, hc0, hc1, hc2⟩ := keepA (a := .int .i64 W) (b := .int .i64 D) (c := .int .i64 E) (t := 48) hb
  go_wp2_with fail
  refine (holds_c W D E a h _).mono ?_
  rintro e w1 ⟨rfl, hb⟩
  obtain ⟨hB, hc0, hc1, hc2⟩ := keepL ⟨hB, hc0, hc1, hc2⟩ hb
  go_wp2
  go_ret2
  exact ⟨rfl, hB⟩

set_option maxHeartbeats 2000000 in
theorem Abs_c (k W D E a : Int) (hk : KK k W D E) (hv : okB W a = true) (w : World) :
    Calls Tryd.prog 40 #[.int .i64 k, .int .i64 a] w fun e w' => e = .returned (.tuple #[.int .i64 (absF W D a), .int .i64 0]) ∧ Below w.heap.size w w' := by
  have h := hk.kl
  have Hk := Lib.hid hk; clear hk
  have hz := siz_b W D E a h
  by_cases c4 : cls D (siz W a) = 4
  · have e4 : (cls D (siz W a) == 4) = true := by simp [c4]
    have hN := Lib.hid (show absF W D a = jn W 0 (qz D) by simp [absF, c4])
    clear c4
    go_enter Tryd.func40, Tryd.ntmps40
    go_wp2_with (go_at_call 92; go_in)
    refine (layoutOf_c k W D E Hk.out _).mono ?_
    rintro e wa ⟨rfl, hb⟩
    obtain ⟨hB, hc0, hc1, hc2⟩ := keepA (a := .int .i64 W) (b := .int .i64 D) (c := .int .i64 E) (t := 48) hb
    go_wp2_with fail
    refine (holds_c W D E a h _).mono ?_
    rintro e w1 ⟨rfl, hb⟩
    obtain ⟨hB, hc0, hc1, hc2⟩ := keepL ⟨hB, hc0, hc1, hc2⟩ hb
    go_wp2_with fail
    refine (class_c W D E a h _).mono ?_
    rintro e w1 ⟨rfl, hb⟩
    obtain ⟨hB, hc0, hc1, hc2⟩ := keepL ⟨hB, hc0, hc1, hc2⟩ hb
    go_wp2_with fail
    refine (quiet_c W D E h _).mono ?_
    rintro e w1 ⟨rfl, hb⟩
    obtain ⟨hB, hc0, hc1, hc2⟩ := keepL ⟨hB, hc0, hc1, hc2⟩ hb
    go_wp2
    go_ret2
    exact ⟨by rw [hN.out]; rfl, hB⟩
  · have e4 : (cls D (siz W a) == 4) = false := by simp [c4]
    have hN := Lib.hid (show absF W D a = jn W 0 (siz W a) by simp [absF, c4])
    have hs : sgn W a = 0 ∨ sgn W a = 1 := by unfold sgn; split <;> simp
    have hj : 1 - sgn W a = 0 ∨ 1 - sgn W a = 1 := by omega
    clear c4
    go_enter Tryd.func40, Tryd.ntmps40
    go_wp2_with (go_at_call 92; go_in)
    refine (layoutOf_c k W D E Hk.out _).mono ?_
    rintro e wa ⟨rfl, hb⟩
    obtain ⟨hB, hc0, hc1, hc2⟩ := keepA (a := .int .i64 W) (b := .int .i64 D) (c := .int .i64 E) (t := 48) hb
    go_wp2_with fail
    refine (holds_c W D E a h _).mono ?_
    rintro e w1 ⟨rfl, hb⟩
    obtain ⟨hB, hc0, hc1, hc2⟩ := keepL ⟨hB, hc0, hc1, hc2⟩ hb
    go_wp2_with fail
    refine (class_c W D E a h _).mono ?_
    rintro e w1 ⟨rfl, hb⟩
    obtain ⟨hB, hc0, hc1, hc2⟩ := keepL ⟨hB, hc0, hc1, hc2⟩ hb
    go_wp2_with fail
    go_region_held3 (fun w' => Below w.heap.size w w' ∧ w'.cell? ⟨wa.heap.size, 0, none⟩ = some (.int .i64 W) ∧ w'.cell? ⟨wa.heap.size, 1, none⟩ = some (.int .i64 D) ∧ w'.cell? ⟨wa.heap.size, 2, none⟩ = some (.int .i64 E)) (first | exact keepD ⟨hB, hc0, hc1, hc2⟩ | exact keepL (by assumption) hb)
      (first | (go_at_call 76; refine (sign_c W D E a h hv _).mono ?_; rintro e w' ⟨rfl, hb⟩) | (go_at_call 94; refine (abs1_c (sgn W a) _).mono ?_; rintro e w' ⟨rfl, hb⟩) | (go_at_call 77; refine (size_c W D E a h _).mono ?_; rintro e w' ⟨rfl, hb⟩) | (go_at_call 80; refine (join_c W D E 0 (siz W a) h (.inl rfl) hz.1 hz.2 _).mono ?_; rintro e w' ⟨rfl, hb⟩))
    rename_i hH
    obtain ⟨hB, hc0, hc1, hc2⟩ := hH
    go_wp2
    go_ret2
    exact ⟨by rw [hN.out]; rfl, hB⟩
end Go.Proofs.YtfdenbgmogojeaaDoor
