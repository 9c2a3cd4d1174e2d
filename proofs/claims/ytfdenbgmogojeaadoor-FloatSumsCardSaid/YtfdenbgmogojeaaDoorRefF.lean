/- Contracts of quadratref01's negative, Neg, Abs and Class for every kind and every float of it: they return what the code's return. -/
import Derived.Test.YtfdenbgmogojeaaDoorRefB
import Derived.Test.YtfdenbgmogojeaaDoorRefC
import Derived.Test.YtfdenbgmogojeaaDoorRefE
import Derived.Test.YtfdenbgmogojeaaDoorFloO
namespace Go.Proofs.YtfdenbgmogojeaaDoor
open Go.RowKit

theorem xor_top (i s z : Nat) (hs : s = 0 ∨ s = 1) (hz : z < 2 ^ i) : (s * 2 ^ i + z) ^^^ 2 ^ i = (1 - s) * 2 ^ i + z := by
  have hp := Nat.two_pow_pos i
  have h1 : ((s * 2 ^ i + z) ^^^ 2 ^ i) / 2 ^ i = 1 - s := by
    rw [Nat.xor_div_two_pow, Nat.div_self hp, Nat.mul_comm, Nat.mul_add_div hp, Nat.div_eq_of_lt hz]
    rcases hs with rfl | rfl <;> rfl
  have h2 : ((s * 2 ^ i + z) ^^^ 2 ^ i) % 2 ^ i = z := by
    rw [Nat.xor_mod_two_pow, Nat.mod_self, Nat.xor_zero, Nat.mul_comm, Nat.mul_add_mod, Nat.mod_eq_of_lt hz]
  rw [← Nat.div_add_mod ((s * 2 ^ i + z) ^^^ 2 ^ i) (2 ^ i), h1, h2, Nat.mul_comm]

theorem xor_top_u64 (i s z : Nat) (hs : s = 0 ∨ s = 1) (hz : z < 2 ^ i) (hi : 2 ^ i ≤ 9223372036854775808) :
    bits .xor .u64 ((s * 2 ^ i + z : Nat) : Int) ((2 ^ i : Nat) : Int) = (((1 - s) * 2 ^ i + z : Nat) : Int) := by
  have hb : s * 2 ^ i + z < 18446744073709551616 := by rcases hs with rfl | rfl <;> omega
  rw [bits_xor_u64_nat _ _ hb (by omega), xor_top i s z hs hz]

theorem flip_16 (a : Int) (h : okB 16 a = true) : wrap64 (bits .xor .u64 (IntKind.u64.wrap a) 32768) = jn 16 (1 - sgn 16 a) (siz 16 a) := by
  have h2 : 0 ≤ a ∧ a < 65536 := by
    unfold okB at h; rw [show hf 16 = 32768 from rfl] at h
    simpa using h
  by_cases c : a < 32768
  · rw [show IntKind.u64.wrap a = ((0 * 2 ^ 15 + a.toNat : Nat) : Int) by rw [IntKind.wrap_u64]; omega, show (32768 : Int) = ((2 ^ 15 : Nat) : Int) by decide, xor_top_u64 15 0 a.toNat (.inl rfl) (by omega) (by decide)]
    unfold wrap64 jn sgn siz; rw [show hf 16 = 32768 from rfl, if_pos (by omega)]; omega
  · rw [show IntKind.u64.wrap a = ((1 * 2 ^ 15 + (a.toNat - 32768) : Nat) : Int) by rw [IntKind.wrap_u64]; omega, show (32768 : Int) = ((2 ^ 15 : Nat) : Int) by decide, xor_top_u64 15 1 _ (.inr rfl) (by omega) (by decide)]
    unfold wrap64 jn sgn siz; rw [show hf 16 = 32768 from rfl, if_neg (by omega)]; omega
theorem flip_32 (a : Int) (h : okB 32 a = true) : wrap64 (bits .xor .u64 (IntKind.u64.wrap a) 2147483648) = jn 32 (1 - sgn 32 a) (siz 32 a) := by
  have h2 : 0 ≤ a ∧ a < 4294967296 := by
    unfold okB at h; rw [show hf 32 = 2147483648 from rfl] at h
    simpa using h
  by_cases c : a < 2147483648
  · rw [show IntKind.u64.wrap a = ((0 * 2 ^ 31 + a.toNat : Nat) : Int) by rw [IntKind.wrap_u64]; omega, show (2147483648 : Int) = ((2 ^ 31 : Nat) : Int) by decide, xor_top_u64 31 0 a.toNat (.inl rfl) (by omega) (by decide)]
    unfold wrap64 jn sgn siz; rw [show hf 32 = 2147483648 from rfl, if_pos (by omega)]; omega
  · rw [show IntKind.u64.wrap a = ((1 * 2 ^ 31 + (a.toNat - 2147483648) : Nat) : Int) by rw [IntKind.wrap_u64]; omega, show (2147483648 : Int) = ((2 ^ 31 : Nat) : Int) by decide, xor_top_u64 31 1 _ (.inr rfl) (by omega) (by decide)]
    unfold wrap64 jn sgn siz; rw [show hf 32 = 2147483648 from rfl, if_neg (by omega)]; omega
theorem flip_64 (a : Int) : wrap64 (bits .xor .u64 (IntKind.u64.wrap a) 9223372036854775808) = jn 64 (1 - sgn 64 a) (siz 64 a) := by
  by_cases c : a % 18446744073709551616 < 9223372036854775808
  · rw [show IntKind.u64.wrap a = ((0 * 2 ^ 63 + (a % 18446744073709551616).toNat : Nat) : Int) by rw [IntKind.wrap_u64]; omega, show (9223372036854775808 : Int) = ((2 ^ 63 : Nat) : Int) by decide, xor_top_u64 63 0 _ (.inl rfl) (by omega) (by decide)]
    unfold wrap64 jn sgn siz; rw [show hf 64 = 9223372036854775808 from rfl, if_pos (by omega)]; omega
  · rw [show IntKind.u64.wrap a = ((1 * 2 ^ 63 + ((a % 18446744073709551616).toNat - 9223372036854775808) : Nat) : Int) by rw [IntKind.wrap_u64]; omega, show (9223372036854775808 : Int) = ((2 ^ 63 : Nat) : Int) by decide, xor_top_u64 63 1 _ (.inr rfl) (by omega) (by decide)]
    unfold wrap64 jn sgn siz; rw [show hf 64 = 9223372036854775808 from rfl, if_neg (by omega)]; omega

theorem field53_0 (n : ByteArray) (s e : Int) (ln cp : Nat) (ad : Option Addr) (w : World) : (Instr.field 53 (.agg #[.string n, .int .i64 s, .slice ad ln cp, .int .i64 e]) 0).run Tryd.prog w = .ok (.string n) w := by kernel_rfl


set_option maxHeartbeats 2000000 in
theorem rnegative_c (k W D E a : Int) (hk : KK k W D E) (hv : okB W a = true) (w : World) :
    Calls Tryd.prog 62 #[.int .i64 k, .int .i64 a] w fun e w' => e = .returned (.int .i64 (negF W D a)) ∧ Below w.heap.size w w' := by
  have Ht := Lib.hid (fun w' => taken_c k W D E a hk hv w')
  have Hq := Lib.hid (fun w' => rQuiet_c k W D E hk w')
  by_cases c4 : cls D (siz W a) = 4
  · have hwh : whS (cls D (siz W a)) = ⟨#[110, 111, 110, 101]⟩ := by rw [c4]; rfl
    have hN := Lib.hid (show negF W D a = jn W 0 (qz D) by simp [negF, c4])
    clear c4 hk
    have hfd := field53_0
    go_enter Tryd.func62, Tryd.ntmps62
    go_wp2_with fail
    refine (Ht.out _).mono ?_
    rintro e w1 ⟨v0, rfl, hown, hB⟩
    obtain ⟨ad, ln, cp, hv0⟩ := own_slice hown
    subst hv0
    clear hown
    go_wp2_with fail
    refine (Hq.out _).mono ?_
    rintro e w2 ⟨rfl, hb⟩
    first
      | (have hB := bt hB hb; go_wp2; go_ret; exact ⟨by rw [hN.out]; rfl, hB⟩)
      | (have hB := bt (hB.alloc hB.size _) hb; go_wp2; go_ret; exact ⟨by rw [hN.out]; rfl, hB⟩)
  · have hN := Lib.hid (show negF W D a = jn W (1 - sgn W a) (siz W a) by simp [negF, c4])
    have hwh := wh_not _ (cls_nn D (siz W a)) c4
    clear c4
    rcases hk with ⟨rfl, rfl, rfl, rfl⟩ | ⟨rfl, rfl, rfl, rfl⟩ | ⟨rfl, rfl, rfl, rfl⟩ <;> rcases hwh with hwh | hwh | hwh
    all_goals
      have hF := Lib.hid (by first | exact flip_16 a hv | exact flip_32 a hv | exact flip_64 a)
      have hfd := field53_0
      go_enter Tryd.func62, Tryd.ntmps62
      go_wp2_with fail
      refine (Ht.out _).mono ?_
      rintro e w1 ⟨v0, rfl, hown, hB⟩
      obtain ⟨ad, ln, cp, hv0⟩ := own_slice hown
      subst hv0
      clear hown
      go_wp2
      go_ret
      first
        | exact ⟨by rw [hN.out, ← hF.out]; rfl, hB⟩
        | exact ⟨by rw [hN.out, ← hF.out]; rfl, hB.alloc hB.size _⟩

set_option maxHeartbeats 1000000 in
theorem rNeg_c (k W D E a : Int) (hk : KK k W D E) (hv : okB W a = true) (w : World) :
    Calls Tryd.prog 39 #[.int .i64 k, .int .i64 a] w fun e w' => e = .returned (.tuple #[.int .i64 (negF W D a), .int .i64 0]) ∧ Below w.heap.size w w' := by
  have H := Lib.hid (fun w' => rValid_c k W D E a hk w')
  rw [hv] at H
  have Hn := Lib.hid (fun w' => rnegative_c k W D E a hk hv w')
  clear hk hv
  go_enter Tryd.func39, Tryd.ntmps39
  go_wp2_with fail
  refine (H.out _).mono ?_
  rintro e w0 ⟨rfl, rfl⟩
  go_wp2_with fail
  refine (Hn.out _).mono ?_
  rintro e w1 ⟨rfl, hB⟩
  go_wp2
  go_ret2
  exact ⟨rfl, hB⟩


set_option maxHeartbeats 2000000 in
theorem rAbs_c (k W D E a : Int) (hk : KK k W D E) (hv : okB W a = true) (w : World) :
    Calls Tryd.prog 41 #[.int .i64 k, .int .i64 a] w fun e w' => e = .returned (.tuple #[.int .i64 (absF W D a), .int .i64 0]) ∧ Below w.heap.size w w' := by
  have H := Lib.hid (fun w' => rValid_c k W D E a hk w')
  rw [hv] at H
  have Ht := Lib.hid (fun w' => taken_c k W D E a hk hv w')
  have Hq := Lib.hid (fun w' => rQuiet_c k W D E hk w')
  have Hs := Lib.hid (fun w' => rsize_c k W D E a hk w')
  have hz := siz_b W D E a hk.kl
  have hf := (hf_b hk.kl).2
  by_cases c4 : cls D (siz W a) = 4
  · have hwh : whS (cls D (siz W a)) = ⟨#[110, 111, 110, 101]⟩ := by rw [c4]; rfl
    have hN := Lib.hid (show absF W D a = jn W 0 (qz D) by simp [absF, c4])
    clear c4 hk hv
    have hfd := field53_0
    go_enter Tryd.func41, Tryd.ntmps41
    go_wp2_with fail
    refine (H.out _).mono ?_
    rintro e w0 ⟨rfl, rfl⟩
    go_wp2_with fail
    refine (Ht.out _).mono ?_
    rintro e w1 ⟨v0, rfl, hown, hB⟩
    obtain ⟨ad, ln, cp, hv0⟩ := own_slice hown
    subst hv0
    clear hown
    go_wp2_with fail
    refine (Hq.out _).mono ?_
    rintro e w2 ⟨rfl, hb⟩
    first
      | (have hB := bt hB hb; go_wp2; go_ret2; exact ⟨by rw [hN.out]; rfl, hB⟩)
      | (have hB := bt (hB.alloc hB.size _) hb; go_wp2; go_ret2; exact ⟨by rw [hN.out]; rfl, hB⟩)
  · have hN := Lib.hid (show absF W D a = siz W a by unfold absF jn; rw [if_neg c4]; omega)
    have hwh := wh_not _ (cls_nn D (siz W a)) c4
    clear c4 hk hv
    rcases hwh with hwh | hwh | hwh
    all_goals
      have hfd := field53_0
      go_enter Tryd.func41, Tryd.ntmps41
      go_wp2_with fail
      refine (H.out _).mono ?_
      rintro e w0 ⟨rfl, rfl⟩
      go_wp2_with fail
      refine (Ht.out _).mono ?_
      rintro e w1 ⟨v0, rfl, hown, hB⟩
      obtain ⟨ad, ln, cp, hv0⟩ := own_slice hown
      subst hv0
      clear hown
      go_wp2_with fail
      refine (Hs.out _).mono ?_
      rintro e w2 ⟨rfl, rfl⟩
      go_wp2
      go_ret2
      first
        | exact ⟨by rw [hN.out]; rfl, hB⟩
        | exact ⟨by rw [hN.out]; rfl, hB.alloc hB.size _⟩

set_option maxHeartbeats 1000000 in
theorem rNeg_out (k W D E a : Int) (hk : KK k W D E) (hv : okB W a = false) (w : World) :
    Calls Tryd.prog 39 #[.int .i64 k, .int .i64 a] w fun e w' => e = .returned (.tuple #[.int .i64 0, .int .i64 2]) ∧ Below w.heap.size w w' := by
  have H := Lib.hid (fun w' => rValid_c k W D E a hk w')
  rw [hv] at H
  clear hk hv
  go_enter Tryd.func39, Tryd.ntmps39
  go_wp2_with fail
  refine (H.out _).mono ?_
  rintro e w0 ⟨rfl, rfl⟩
  go_wp2
  go_ret2
  exact ⟨rfl, Below.refl _ _⟩

set_option maxHeartbeats 1000000 in
theorem rNeg_no (k a : Int) (h2 : (k == 2) = false) (h4 : (k == 4) = false) (h8 : (k == 8) = false) (w : World) :
    Calls Tryd.prog 39 #[.int .i64 k, .int .i64 a] w fun e w' => e = .returned (.tuple #[.int .i64 0, .int .i64 2]) ∧ Below w.heap.size w w' := by
  have H := Lib.hid (fun w' => rValid_no k a h2 h4 h8 w')
  clear h2 h4 h8
  go_enter Tryd.func39, Tryd.ntmps39
  go_wp2_with fail
  refine (H.out _).mono ?_
  rintro e w0 ⟨rfl, rfl⟩
  go_wp2
  go_ret2
  exact ⟨rfl, Below.refl _ _⟩

set_option maxHeartbeats 1000000 in
theorem rAbs_out (k W D E a : Int) (hk : KK k W D E) (hv : okB W a = false) (w : World) :
    Calls Tryd.prog 41 #[.int .i64 k, .int .i64 a] w fun e w' => e = .returned (.tuple #[.int .i64 0, .int .i64 2]) ∧ Below w.heap.size w w' := by
  have H := Lib.hid (fun w' => rValid_c k W D E a hk w')
  rw [hv] at H
  clear hk hv
  go_enter Tryd.func41, Tryd.ntmps41
  go_wp2_with fail
  refine (H.out _).mono ?_
  rintro e w0 ⟨rfl, rfl⟩
  go_wp2
  go_ret2
  exact ⟨rfl, Below.refl _ _⟩

set_option maxHeartbeats 1000000 in
theorem rAbs_no (k a : Int) (h2 : (k == 2) = false) (h4 : (k == 4) = false) (h8 : (k == 8) = false) (w : World) :
    Calls Tryd.prog 41 #[.int .i64 k, .int .i64 a] w fun e w' => e = .returned (.tuple #[.int .i64 0, .int .i64 2]) ∧ Below w.heap.size w w' := by
  have H := Lib.hid (fun w' => rValid_no k a h2 h4 h8 w')
  clear h2 h4 h8
  go_enter Tryd.func41, Tryd.ntmps41
  go_wp2_with fail
  refine (H.out _).mono ?_
  rintro e w0 ⟨rfl, rfl⟩
  go_wp2
  go_ret2
  exact ⟨rfl, Below.refl _ _⟩
end Go.Proofs.YtfdenbgmogojeaaDoor
