/- Contracts of quadratref01's Valid, asked, bits, Quiet, size, for every kind and float. -/
import Derived.Test.YtfdenbgmogojeaaDoorFloZ
import Derived.Deep.QuietTactic
import Derived.BigQuiet
namespace Go.Proofs.YtfdenbgmogojeaaDoor
open Go.RowKit

set_option maxHeartbeats 1000000 in
theorem rValid_c (k W D E a : Int) (hk : KK k W D E) (w : World) :
    Calls Tryd.prog 29 #[.int .i64 k, .int .i64 a] w fun e w' => e = .returned (.bool (okB W a)) ∧ w = w' := by
  rcases hk with ⟨rfl, rfl, rfl, rfl⟩ | ⟨rfl, rfl, rfl, rfl⟩ | ⟨rfl, rfl, rfl, rfl⟩
  · by_cases c1 : 0 ≤ a
    · by_cases c2 : a < 65536
      · have hN := Lib.hid (show okB 16 a = true by simp [okB, hf]; omega)
        go_enter Tryd.func29, Tryd.ntmps29
        go_wp2
        go_ret
        exact ⟨by rw [hN.out]; simp, rfl⟩
      · have hN := Lib.hid (show okB 16 a = false by simp [okB, hf]; omega)
        go_enter Tryd.func29, Tryd.ntmps29
        go_wp2
        go_ret
        exact ⟨by rw [hN.out]; simp, rfl⟩
    · have hN := Lib.hid (show okB 16 a = false by simp [okB, hf]; omega)
      go_enter Tryd.func29, Tryd.ntmps29
      go_wp2
      go_ret
      exact ⟨by rw [hN.out]; rfl, rfl⟩
  · by_cases c1 : 0 ≤ a
    · by_cases c2 : a < 4294967296
      · have hN := Lib.hid (show okB 32 a = true by simp [okB, hf]; omega)
        go_enter Tryd.func29, Tryd.ntmps29
        go_wp2
        go_ret
        exact ⟨by rw [hN.out]; simp, rfl⟩
      · have hN := Lib.hid (show okB 32 a = false by simp [okB, hf]; omega)
        go_enter Tryd.func29, Tryd.ntmps29
        go_wp2
        go_ret
        exact ⟨by rw [hN.out]; simp, rfl⟩
    · have hN := Lib.hid (show okB 32 a = false by simp [okB, hf]; omega)
      go_enter Tryd.func29, Tryd.ntmps29
      go_wp2
      go_ret
      exact ⟨by rw [hN.out]; rfl, rfl⟩
  · go_enter Tryd.func29, Tryd.ntmps29
    go_wp2
    go_ret
    exact ⟨rfl, rfl⟩
set_option maxHeartbeats 1000000 in
theorem rValid_no (k a : Int) (h2 : (k == 2) = false) (h4 : (k == 4) = false) (h8 : (k == 8) = false) (w : World) :
    Calls Tryd.prog 29 #[.int .i64 k, .int .i64 a] w fun e w' => e = .returned (.bool false) ∧ w = w' := by
  go_enter Tryd.func29, Tryd.ntmps29
  go_wp2
  go_ret
  exact ⟨rfl, rfl⟩


theorem or3_2_0 (e f : Int) (e0 : 0 ≤ e) (e1 : e ≤ 31) (f0 : 0 ≤ f) (f1 : f < 1024) :
    wrap64 (bits .or .u64 (bits .or .u64 0 (IntKind.u64.wrap (IntKind.u64.wrap e * 1024))) f) = jn 16 0 (e * 1024 + f) := by
  rw [show IntKind.u64.wrap (IntKind.u64.wrap e * 1024) = e * 1024 by rw [IntKind.wrap_u64, IntKind.wrap_u64]; omega, or_zero_u64 (e * 1024) (by omega) (by omega)]
  obtain ⟨x, rfl⟩ := Int.eq_ofNat_of_zero_le e0
  obtain ⟨y, rfl⟩ := Int.eq_ofNat_of_zero_le f0
  have h := or_join_u64 10 (0 + x * 1024) y (by omega) (by omega) (by omega) (by omega)
  rw [show ((0 + x * 1024 : Nat) : Int) = (x : Int) * 1024 by omega] at h
  rw [h]; unfold wrap64 jn; rw [hf16]; omega

theorem or3_2_1 (e f : Int) (e0 : 0 ≤ e) (e1 : e ≤ 31) (f0 : 0 ≤ f) (f1 : f < 1024) :
    wrap64 (bits .or .u64 (bits .or .u64 32768 (IntKind.u64.wrap (IntKind.u64.wrap e * 1024))) f) = jn 16 1 (e * 1024 + f) := by
  rw [show IntKind.u64.wrap (IntKind.u64.wrap e * 1024) = e * 1024 by rw [IntKind.wrap_u64, IntKind.wrap_u64]; omega, or_16 (e * 1024) (by omega) (by omega)]
  obtain ⟨x, rfl⟩ := Int.eq_ofNat_of_zero_le e0
  obtain ⟨y, rfl⟩ := Int.eq_ofNat_of_zero_le f0
  have h := or_join_u64 10 (32768 + x * 1024) y (by omega) (by omega) (by omega) (by omega)
  rw [show ((32768 + x * 1024 : Nat) : Int) = 32768 + (x : Int) * 1024 by omega] at h
  rw [h]; unfold wrap64 jn; rw [hf16]; omega

theorem or3_4_0 (e f : Int) (e0 : 0 ≤ e) (e1 : e ≤ 255) (f0 : 0 ≤ f) (f1 : f < 8388608) :
    wrap64 (bits .or .u64 (bits .or .u64 0 (IntKind.u64.wrap (IntKind.u64.wrap e * 8388608))) f) = jn 32 0 (e * 8388608 + f) := by
  rw [show IntKind.u64.wrap (IntKind.u64.wrap e * 8388608) = e * 8388608 by rw [IntKind.wrap_u64, IntKind.wrap_u64]; omega, or_zero_u64 (e * 8388608) (by omega) (by omega)]
  obtain ⟨x, rfl⟩ := Int.eq_ofNat_of_zero_le e0
  obtain ⟨y, rfl⟩ := Int.eq_ofNat_of_zero_le f0
  have h := or_join_u64 23 (0 + x * 8388608) y (by omega) (by omega) (by omega) (by omega)
  rw [show ((0 + x * 8388608 : Nat) : Int) = (x : Int) * 8388608 by omega] at h
  rw [h]; unfold wrap64 jn; rw [hf32]; omega

theorem or3_4_1 (e f : Int) (e0 : 0 ≤ e) (e1 : e ≤ 255) (f0 : 0 ≤ f) (f1 : f < 8388608) :
    wrap64 (bits .or .u64 (bits .or .u64 2147483648 (IntKind.u64.wrap (IntKind.u64.wrap e * 8388608))) f) = jn 32 1 (e * 8388608 + f) := by
  rw [show IntKind.u64.wrap (IntKind.u64.wrap e * 8388608) = e * 8388608 by rw [IntKind.wrap_u64, IntKind.wrap_u64]; omega, or_32 (e * 8388608) (by omega) (by omega)]
  obtain ⟨x, rfl⟩ := Int.eq_ofNat_of_zero_le e0
  obtain ⟨y, rfl⟩ := Int.eq_ofNat_of_zero_le f0
  have h := or_join_u64 23 (2147483648 + x * 8388608) y (by omega) (by omega) (by omega) (by omega)
  rw [show ((2147483648 + x * 8388608 : Nat) : Int) = 2147483648 + (x : Int) * 8388608 by omega] at h
  rw [h]; unfold wrap64 jn; rw [hf32]; omega

theorem or3_8_0 (e f : Int) (e0 : 0 ≤ e) (e1 : e ≤ 2047) (f0 : 0 ≤ f) (f1 : f < 4503599627370496) :
    wrap64 (bits .or .u64 (bits .or .u64 0 (IntKind.u64.wrap (IntKind.u64.wrap e * 4503599627370496))) f) = jn 64 0 (e * 4503599627370496 + f) := by
  rw [show IntKind.u64.wrap (IntKind.u64.wrap e * 4503599627370496) = e * 4503599627370496 by rw [IntKind.wrap_u64, IntKind.wrap_u64]; omega, or_zero_u64 (e * 4503599627370496) (by omega) (by omega)]
  obtain ⟨x, rfl⟩ := Int.eq_ofNat_of_zero_le e0
  obtain ⟨y, rfl⟩ := Int.eq_ofNat_of_zero_le f0
  have h := or_join_u64 52 (0 + x * 4503599627370496) y (by omega) (by omega) (by omega) (by omega)
  rw [show ((0 + x * 4503599627370496 : Nat) : Int) = (x : Int) * 4503599627370496 by omega] at h
  rw [h]; unfold wrap64 jn; rw [hf64]; omega

theorem or3_8_1 (e f : Int) (e0 : 0 ≤ e) (e1 : e ≤ 2047) (f0 : 0 ≤ f) (f1 : f < 4503599627370496) :
    wrap64 (bits .or .u64 (bits .or .u64 9223372036854775808 (IntKind.u64.wrap (IntKind.u64.wrap e * 4503599627370496))) f) = jn 64 1 (e * 4503599627370496 + f) := by
  rw [show IntKind.u64.wrap (IntKind.u64.wrap e * 4503599627370496) = e * 4503599627370496 by rw [IntKind.wrap_u64, IntKind.wrap_u64]; omega, or_64 (e * 4503599627370496) (by omega) (by omega)]
  obtain ⟨x, rfl⟩ := Int.eq_ofNat_of_zero_le e0
  obtain ⟨y, rfl⟩ := Int.eq_ofNat_of_zero_le f0
  have h := or_join_u64 52 (9223372036854775808 + x * 4503599627370496) y (by omega) (by omega) (by omega) (by omega)
  rw [show ((9223372036854775808 + x * 4503599627370496 : Nat) : Int) = 9223372036854775808 + (x : Int) * 4503599627370496 by omega] at h
  rw [h]; unfold wrap64 jn; rw [hf64]; omega

set_option maxHeartbeats 4000000 in
theorem rbits_c (k W D E s e f : Int) (hk : KK k W D E) (hs : Sgn s) (e0 : 0 ≤ e) (e1 : e * hid D + f < hf W) (f0 : 0 ≤ f) (f1 : f < hid D) (w : World) :
    Calls Tryd.prog 95 #[.int .i64 k, .int .i64 s, .int .i64 e, .int .i64 f] w fun e' w' => e' = .returned (.int .i64 (jn W s (e * hid D + f))) ∧ Below w.heap.size w w' := by
  rcases hk with ⟨rfl, rfl, rfl, rfl⟩ | ⟨rfl, rfl, rfl, rfl⟩ | ⟨rfl, rfl, rfl, rfl⟩ <;> rcases hs with rfl | rfl
  · rw [show hid 11 = 1024 from rfl] at *
    rw [hf16] at e1
    have H0 := Lib.hid (or3_2_0 e f e0 (by omega) f0 f1)
    clear e1
    go_enter Tryd.func95, Tryd.ntmps95
    go_wp2
    go_quiet (fail)
    go_wp2
    go_ret
    exact ⟨ret_i H0.out, below_drewN (Below.refl _ _) _⟩
  · rw [show hid 11 = 1024 from rfl] at *
    rw [hf16] at e1
    have H0 := Lib.hid (or3_2_1 e f e0 (by omega) f0 f1)
    clear e1
    go_enter Tryd.func95, Tryd.ntmps95
    go_wp2
    go_quiet (fail)
    go_wp2
    go_ret
    exact ⟨ret_i H0.out, below_drewN (Below.refl _ _) _⟩
  · rw [show hid 24 = 8388608 from rfl] at *
    rw [hf32] at e1
    have H0 := Lib.hid (or3_4_0 e f e0 (by omega) f0 f1)
    clear e1
    go_enter Tryd.func95, Tryd.ntmps95
    go_wp2
    go_quiet (fail)
    go_wp2
    go_ret
    exact ⟨ret_i H0.out, below_drewN (Below.refl _ _) _⟩
  · rw [show hid 24 = 8388608 from rfl] at *
    rw [hf32] at e1
    have H0 := Lib.hid (or3_4_1 e f e0 (by omega) f0 f1)
    clear e1
    go_enter Tryd.func95, Tryd.ntmps95
    go_wp2
    go_quiet (fail)
    go_wp2
    go_ret
    exact ⟨ret_i H0.out, below_drewN (Below.refl _ _) _⟩
  · rw [show hid 53 = 4503599627370496 from rfl] at *
    rw [hf64] at e1
    have H0 := Lib.hid (or3_8_0 e f e0 (by omega) f0 f1)
    clear e1
    go_enter Tryd.func95, Tryd.ntmps95
    go_wp2
    go_quiet (fail)
    go_wp2
    go_ret
    exact ⟨ret_i H0.out, below_drewN (Below.refl _ _) _⟩
  · rw [show hid 53 = 4503599627370496 from rfl] at *
    rw [hf64] at e1
    have H0 := Lib.hid (or3_8_1 e f e0 (by omega) f0 f1)
    clear e1
    go_enter Tryd.func95, Tryd.ntmps95
    go_wp2
    go_quiet (fail)
    go_wp2
    go_ret
    exact ⟨ret_i H0.out, below_drewN (Below.refl _ _) _⟩

theorem endl_split (W D E : Int) (h : KL W D E) : endl D = (endl D / hid D) * hid D + 0 ∧ qz D = (endl D / hid D) * hid D + hid D / 2 ∧ 0 ≤ endl D / hid D ∧ 0 ≤ hid D / 2 ∧ hid D / 2 < hid D ∧ 0 < hid D := by
  rcases h with ⟨rfl, rfl, rfl⟩ | ⟨rfl, rfl, rfl⟩ | ⟨rfl, rfl, rfl⟩ <;> decide
set_option maxHeartbeats 1000000 in
theorem rQuiet_c (k W D E : Int) (hk : KK k W D E) (w : World) :
    Calls Tryd.prog 53 #[.int .i64 k] w fun e w' => e = .returned (.int .i64 (jn W 0 (qz D))) ∧ Below w.heap.size w w' := by
  have h := hk.kl
  obtain ⟨_, q1, q2, q3, q4, _⟩ := endl_split W D E h
  have hb := Lib.hid (fun w => rbits_c k W D E 0 (endl D / hid D) (hid D / 2) hk (.inl rfl) q2 (by rw [← q1]; exact (qz_b W D E h).2) q3 q4 w)
  rw [← q1] at hb
  rcases hk with ⟨rfl, rfl, rfl, rfl⟩ | ⟨rfl, rfl, rfl, rfl⟩ | ⟨rfl, rfl, rfl, rfl⟩
  all_goals
    clear q1 q2 q3 q4
    go_enter Tryd.func53, Tryd.ntmps53
    go_wp2_with (first | (go_at_call 95; refine (hb.out _).mono ?_; rintro e w1 ⟨rfl, hb1⟩) | go_in)
    go_ret
    exact ⟨rfl, hb1⟩
end Go.Proofs.YtfdenbgmogojeaaDoor
