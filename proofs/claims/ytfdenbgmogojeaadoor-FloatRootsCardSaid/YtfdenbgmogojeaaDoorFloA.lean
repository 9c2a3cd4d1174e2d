/- Contracts of the small functions of package float (layoutOf and the methods of layout): each returns what the plain mathematics says, for every input that its premises name, and makes memory only. -/
import Derived.Test.YtfdenbgmogojeaaDoorRows
import Derived.Test.YtfdenbgmogojeaaDoorFloM
import Derived.WalkKit
import Derived.WalkSpells
import Derived.WalkLawsBesides
import Derived.Handy
import Derived.Lib.Hide
namespace Go.Proofs.YtfdenbgmogojeaaDoor
open Go.RowKit

/-- A layout as a value. -/
abbrev lay (W D E : Int) : Value := .agg #[.int .i64 W, .int .i64 D, .int .i64 E]

set_option maxHeartbeats 400000 in
theorem hidden_c (W D E : Int) (h : KL W D E) (w : World) :
    Calls Tryd.prog 109 #[lay W D E] w fun e w' => e = .returned (.int .u64 (hid D)) ∧ Below w.heap.size w w' := by
  rcases h with ⟨rfl, rfl, rfl⟩ | ⟨rfl, rfl, rfl⟩ | ⟨rfl, rfl, rfl⟩
  all_goals
    go_enter Tryd.func109, Tryd.ntmps109
    go_wp2
    go_ret
    exact ⟨rfl, by go_grown⟩

set_option maxHeartbeats 400000 in
theorem endless_c (W D E : Int) (h : KL W D E) (w : World) :
    Calls Tryd.prog 110 #[lay W D E] w fun e w' => e = .returned (.int .u64 (endl D)) ∧ Below w.heap.size w w' := by
  rcases h with ⟨rfl, rfl, rfl⟩ | ⟨rfl, rfl, rfl⟩ | ⟨rfl, rfl, rfl⟩
  all_goals
    go_enter Tryd.func110, Tryd.ntmps110
    go_wp2
    go_region
    go_wp2
    go_ret
    exact ⟨rfl, by go_grown⟩

set_option maxHeartbeats 400000 in
theorem size_c (W D E a : Int) (h : KL W D E) (w : World) :
    Calls Tryd.prog 77 #[lay W D E, .int .i64 a] w fun e w' => e = .returned (.int .u64 (siz W a)) ∧ Below w.heap.size w w' := by
  rcases h with ⟨rfl, rfl, rfl⟩ | ⟨rfl, rfl, rfl⟩ | ⟨rfl, rfl, rfl⟩
  · go_enter Tryd.func77, Tryd.ntmps77
    go_wp2
    go_ret
    exact ⟨ret_i (and_16 a), by go_grown⟩
  · go_enter Tryd.func77, Tryd.ntmps77
    go_wp2
    go_ret
    exact ⟨ret_i (and_32 a), by go_grown⟩
  · go_enter Tryd.func77, Tryd.ntmps77
    go_wp2
    go_ret
    exact ⟨ret_i (and_64 a), by go_grown⟩

theorem sgn_16 (a : Int) (h : okB 16 a = true) : wrap64 (IntKind.u64.wrap a / 32768) = sgn 16 a := by
  simp [okB, hf] at h
  rw [IntKind.wrap_u64]; unfold wrap64 sgn; rw [hf16]; by_cases c : a % 18446744073709551616 < 32768
  · rw [if_pos c]; omega
  · rw [if_neg c]; omega
theorem sgn_32 (a : Int) (h : okB 32 a = true) : wrap64 (IntKind.u64.wrap a / 2147483648) = sgn 32 a := by
  simp [okB, hf] at h
  rw [IntKind.wrap_u64]; unfold wrap64 sgn; rw [hf32]; by_cases c : a % 18446744073709551616 < 2147483648
  · rw [if_pos c]; omega
  · rw [if_neg c]; omega
theorem sgn_64 (a : Int) : wrap64 (IntKind.u64.wrap a / 9223372036854775808) = sgn 64 a := by
  rw [IntKind.wrap_u64]; unfold wrap64 sgn; rw [hf64]; by_cases c : a % 18446744073709551616 < 9223372036854775808
  · rw [if_pos c]; omega
  · rw [if_neg c]; omega

set_option maxHeartbeats 400000 in
theorem sign_c (W D E a : Int) (h : KL W D E) (hv : okB W a = true) (w : World) :
    Calls Tryd.prog 76 #[lay W D E, .int .i64 a] w fun e w' => e = .returned (.int .i64 (sgn W a)) ∧ Below w.heap.size w w' := by
  rcases h with ⟨rfl, rfl, rfl⟩ | ⟨rfl, rfl, rfl⟩ | ⟨rfl, rfl, rfl⟩
  · have h := sgn_16 a hv
    clear hv
    have H := Lib.hid h; clear h
    go_enter Tryd.func76, Tryd.ntmps76
    go_wp2
    go_ret
    exact ⟨ret_i H.out, by go_grown⟩
  · have h := sgn_32 a hv
    clear hv
    have H := Lib.hid h; clear h
    go_enter Tryd.func76, Tryd.ntmps76
    go_wp2
    go_ret
    exact ⟨ret_i H.out, by go_grown⟩
  · clear hv
    go_enter Tryd.func76, Tryd.ntmps76
    go_wp2
    go_ret
    exact ⟨ret_i (sgn_64 a), by go_grown⟩

theorem jn_16_0 (z : Int) (h0 : 0 ≤ z) (h1 : z < hf 16) : wrap64 (bits .or .u64 0 z) = jn 16 0 z := by
  simp only [hf16] at h1
  rw [or_zero_u64 z h0 (by omega)]; unfold wrap64 jn; simp only [hf16]; omega
theorem jn_32_0 (z : Int) (h0 : 0 ≤ z) (h1 : z < hf 32) : wrap64 (bits .or .u64 0 z) = jn 32 0 z := by
  simp only [hf32] at h1
  rw [or_zero_u64 z h0 (by omega)]; unfold wrap64 jn; simp only [hf32]; omega
theorem jn_64_0 (z : Int) (h0 : 0 ≤ z) (h1 : z < hf 64) : wrap64 (bits .or .u64 0 z) = jn 64 0 z := by
  simp only [hf64] at h1
  rw [or_zero_u64 z h0 (by omega)]; unfold wrap64 jn; simp only [hf64]; omega
theorem jn_16_1 (z : Int) (h0 : 0 ≤ z) (h1 : z < hf 16) : wrap64 (bits .or .u64 32768 z) = jn 16 1 z := by
  simp only [hf16] at h1
  rw [or_16 z h0 (by omega)]; unfold wrap64 jn; simp only [hf16]; omega
theorem jn_32_1 (z : Int) (h0 : 0 ≤ z) (h1 : z < hf 32) : wrap64 (bits .or .u64 2147483648 z) = jn 32 1 z := by
  simp only [hf32] at h1
  rw [or_32 z h0 (by omega)]; unfold wrap64 jn; simp only [hf32]; omega
theorem jn_64_1 (z : Int) (h0 : 0 ≤ z) (h1 : z < hf 64) : wrap64 (bits .or .u64 9223372036854775808 z) = jn 64 1 z := by
  simp only [hf64] at h1
  rw [or_64 z h0 (by omega)]; unfold wrap64 jn; simp only [hf64]; omega

set_option maxHeartbeats 400000 in
theorem join_c (W D E s z : Int) (h : KL W D E) (hs : s = 0 ∨ s = 1) (hz0 : 0 ≤ z) (hz1 : z < hf W) (w : World) :
    Calls Tryd.prog 80 #[lay W D E, .int .i64 s, .int .u64 z] w fun e w' => e = .returned (.int .i64 (jn W s z)) ∧ Below w.heap.size w w' := by
  rcases h with ⟨rfl, rfl, rfl⟩ | ⟨rfl, rfl, rfl⟩ | ⟨rfl, rfl, rfl⟩ <;> rcases hs with rfl | rfl
  · have H := Lib.hid (jn_16_0 z hz0 hz1); clear hz1
    go_enter Tryd.func80, Tryd.ntmps80
    go_wp2
    go_ret
    exact ⟨ret_i H.out, by go_grown⟩
  · have H := Lib.hid (jn_16_1 z hz0 hz1); clear hz1
    go_enter Tryd.func80, Tryd.ntmps80
    go_wp2
    go_ret
    exact ⟨ret_i H.out, by go_grown⟩
  · have H := Lib.hid (jn_32_0 z hz0 hz1); clear hz1
    go_enter Tryd.func80, Tryd.ntmps80
    go_wp2
    go_ret
    exact ⟨ret_i H.out, by go_grown⟩
  · have H := Lib.hid (jn_32_1 z hz0 hz1); clear hz1
    go_enter Tryd.func80, Tryd.ntmps80
    go_wp2
    go_ret
    exact ⟨ret_i H.out, by go_grown⟩
  · have H := Lib.hid (jn_64_0 z hz0 hz1); clear hz1
    go_enter Tryd.func80, Tryd.ntmps80
    go_wp2
    go_ret
    exact ⟨ret_i H.out, by go_grown⟩
  · have H := Lib.hid (jn_64_1 z hz0 hz1); clear hz1
    go_enter Tryd.func80, Tryd.ntmps80
    go_wp2
    go_ret
    exact ⟨ret_i H.out, by go_grown⟩

theorem okB_16 (a : Int) (h : 0 ≤ a) : (a / 65536 == 0) = okB 16 a := by
  rw [Bool.eq_iff_iff]; simp [okB, hf]; omega
theorem okB_32 (a : Int) (h : 0 ≤ a) : (a / 4294967296 == 0) = okB 32 a := by
  rw [Bool.eq_iff_iff]; simp [okB, hf]; omega
theorem okB_16' (a : Int) (h : a < 0) : false = okB 16 a := by
  rw [Bool.eq_iff_iff]; simp [okB, hf]; omega
theorem okB_32' (a : Int) (h : a < 0) : false = okB 32 a := by
  rw [Bool.eq_iff_iff]; simp [okB, hf]; omega

set_option maxHeartbeats 400000 in
theorem holds_c (W D E a : Int) (h : KL W D E) (w : World) :
    Calls Tryd.prog 70 #[lay W D E, .int .i64 a] w fun e w' => e = .returned (.bool (okB W a)) ∧ Below w.heap.size w w' := by
  rcases h with ⟨rfl, rfl, rfl⟩ | ⟨rfl, rfl, rfl⟩ | ⟨rfl, rfl, rfl⟩
  · by_cases ha : 0 ≤ a
    all_goals
      go_enter Tryd.func70, Tryd.ntmps70
      go_wp2
      go_ret
      exact ⟨by first | exact ret_b (okB_16 a (by omega)) | exact ret_b (okB_16' a (by omega)), by go_grown⟩
  · by_cases ha : 0 ≤ a
    all_goals
      go_enter Tryd.func70, Tryd.ntmps70
      go_wp2
      go_ret
      exact ⟨by first | exact ret_b (okB_32 a (by omega)) | exact ret_b (okB_32' a (by omega)), by go_grown⟩
  · go_enter Tryd.func70, Tryd.ntmps70
    go_wp2
    go_ret
    exact ⟨rfl, by go_grown⟩

set_option maxHeartbeats 400000 in
theorem layoutOf_c (k W D E : Int) (h : KK k W D E) (w : World) :
    Calls Tryd.prog 68 #[.int .i64 k] w fun e w' => e = .returned (.tuple #[lay W D E, .bool true]) ∧ Below w.heap.size w w' := by
  rcases h with ⟨rfl, rfl, rfl, rfl⟩ | ⟨rfl, rfl, rfl, rfl⟩ | ⟨rfl, rfl, rfl, rfl⟩
  all_goals
    go_enter Tryd.func68, Tryd.ntmps68
    go_wp2
    go_returns
    exact ⟨rfl, by go_grown⟩

set_option maxHeartbeats 400000 in
theorem layoutOf_no (k : Int) (h2 : (k == 2) = false) (h4 : (k == 4) = false) (h8 : (k == 8) = false) (w : World) :
    Calls Tryd.prog 68 #[.int .i64 k] w fun e w' => e = .returned (.tuple #[lay 0 0 0, .bool false]) ∧ Below w.heap.size w w' := by
  go_enter Tryd.func68, Tryd.ntmps68
  go_wp2
  go_returns
  exact ⟨rfl, by go_grown⟩

end Go.Proofs.YtfdenbgmogojeaaDoor
