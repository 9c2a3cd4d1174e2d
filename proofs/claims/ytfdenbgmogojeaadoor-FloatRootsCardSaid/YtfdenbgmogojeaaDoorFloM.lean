/- The plain mathematics of the kinds' layouts: a float's bits as sign and size, classes, joining; no program, no condition but those written at each lemma. -/
import Derived.Laws.ShiftsVar
import Derived.Laws.Wrap64
import Derived.WalkKit
namespace Go.Proofs.YtfdenbgmogojeaaDoor
open Go Go.RowKit

/-- The three layouts: width, digits, exponent's bits. -/
def KL (W D E : Int) : Prop := (W = 16 ∧ D = 11 ∧ E = 5) ∨ (W = 32 ∧ D = 24 ∧ E = 8) ∨ (W = 64 ∧ D = 53 ∧ E = 11)
/-- A kind and its layout. -/
def KK (k W D E : Int) : Prop := (k = 2 ∧ W = 16 ∧ D = 11 ∧ E = 5) ∨ (k = 4 ∧ W = 32 ∧ D = 24 ∧ E = 8) ∨ (k = 8 ∧ W = 64 ∧ D = 53 ∧ E = 11)
theorem KK.kl {k W D E : Int} (h : KK k W D E) : KL W D E := by
  rcases h with ⟨_, h⟩ | ⟨_, h⟩ | ⟨_, h⟩
  · exact .inl h
  · exact .inr (.inl h)
  · exact .inr (.inr h)

/-- An int of 64 bits. -/
def I64 (a : Int) : Prop := -9223372036854775808 ≤ a ∧ a < 9223372036854775808
/-- Half of 2 to the width. -/
def hf (W : Int) : Int := if W = 16 then 32768 else if W = 32 then 2147483648 else 9223372036854775808
/-- The hidden digit; the infinite ones' size. -/
def hid (D : Int) : Int := if D = 11 then 1024 else if D = 24 then 8388608 else 4503599627370496
def endl (D : Int) : Int := if D = 11 then 31744 else if D = 24 then 2139095040 else 9218868437227405312
/-- Do a's bits belong to the kind? -/
def okB (W a : Int) : Bool := W == 64 || (decide (0 ≤ a) && decide (a < 2 * hf W))
def siz (W a : Int) : Int := a % hf W
def sgn (W a : Int) : Int := if a % 18446744073709551616 < hf W then 0 else 1
def jn (W s z : Int) : Int := (s * hf W + z + 9223372036854775808) % 18446744073709551616 - 9223372036854775808
def cls (D z : Int) : Int := if z = 0 then 0 else if z < hid D then 1 else if z < endl D then 2 else if z = endl D then 3 else 4

theorem hf16 : hf 16 = 32768 := rfl
theorem hf32 : hf 32 = 2147483648 := rfl
theorem hf64 : hf 64 = 9223372036854775808 := rfl

/-- x AND (2^n - 1) of 64 bits. -/
theorem and_mask_u64 (x : Int) (n : Nat) (hn : n ≤ 64) : bits .and .u64 (IntKind.u64.wrap x) (((2 ^ n - 1 : Nat) : Nat) : Int) = x % ((2 ^ n : Nat) : Int) := by
  have h2 : (2 : Nat) ^ n ≤ 2 ^ 64 := Nat.pow_le_pow_right (by decide) hn
  have hp : 0 < (2 : Nat) ^ n := Nat.two_pow_pos n
  obtain ⟨m, hm⟩ : ∃ m : Nat, IntKind.u64.wrap x = (m : Int) := ⟨(x % 18446744073709551616).toNat, by rw [IntKind.wrap_u64]; omega⟩
  have hlt : m < 18446744073709551616 := by rw [IntKind.wrap_u64] at hm; omega
  rw [hm, bits_and_u64_nat m (2 ^ n - 1) hlt (by omega), Nat.and_two_pow_sub_one_eq_mod]
  have hd : ((2 ^ n : Nat) : Int) ∣ 18446744073709551616 := by
    have : (2 : Nat) ^ n ∣ 2 ^ 64 := Nat.pow_dvd_pow 2 hn
    have e : (18446744073709551616 : Int) = ((2 ^ 64 : Nat) : Int) := by decide
    rw [e]; exact Int.natCast_dvd_natCast.2 this
  have e1 : x % ((2 ^ n : Nat) : Int) = (x % 18446744073709551616) % ((2 ^ n : Nat) : Int) := (Int.emod_emod_of_dvd x hd).symm
  rw [e1, ← IntKind.wrap_u64, hm]
  omega

theorem and_16 (x : Int) : bits .and .u64 (IntKind.u64.wrap x) 32767 = x % 32768 := and_mask_u64 x 15 (by decide)
theorem and_32 (x : Int) : bits .and .u64 (IntKind.u64.wrap x) 2147483647 = x % 2147483648 := and_mask_u64 x 31 (by decide)
theorem and_64 (x : Int) : bits .and .u64 (IntKind.u64.wrap x) 9223372036854775807 = x % 9223372036854775808 := and_mask_u64 x 63 (by decide)

/-- High bits OR low bits. -/
theorem or_join_u64 (i : Nat) (x z : Nat) (hx : x % 2 ^ i = 0) (hx1 : x < 18446744073709551616) (hz : z < 2 ^ i) (hz1 : z < 18446744073709551616) : bits .or .u64 (x : Int) (z : Int) = (x : Int) + z := by
  rw [u64_or_nat x z hx1 hz1, nat_join i x z hx hz]; omega
theorem or_zero_u64 (z : Int) (h0 : 0 ≤ z) (h1 : z < 18446744073709551616) : bits .or .u64 0 z = z := by
  obtain ⟨m, rfl⟩ := Int.eq_ofNat_of_zero_le h0
  have := u64_or_nat 0 m (by decide) (by omega)
  simpa using this
theorem or_16 (z : Int) (h0 : 0 ≤ z) (h1 : z < 32768) : bits .or .u64 32768 z = 32768 + z := by
  obtain ⟨m, rfl⟩ := Int.eq_ofNat_of_zero_le h0
  exact or_join_u64 15 32768 m (by decide) (by decide) (by omega) (by omega)
theorem or_32 (z : Int) (h0 : 0 ≤ z) (h1 : z < 2147483648) : bits .or .u64 2147483648 z = 2147483648 + z := by
  obtain ⟨m, rfl⟩ := Int.eq_ofNat_of_zero_le h0
  exact or_join_u64 31 2147483648 m (by decide) (by decide) (by omega) (by omega)
theorem or_64 (z : Int) (h0 : 0 ≤ z) (h1 : z < 9223372036854775808) : bits .or .u64 9223372036854775808 z = 9223372036854775808 + z := by
  obtain ⟨m, rfl⟩ := Int.eq_ofNat_of_zero_le h0
  exact or_join_u64 63 9223372036854775808 m (by decide) (by decide) (by omega) (by omega)

theorem ret_i {k : IntKind} {a b : Int} (h : a = b) : Ending.returned (.int k a) = .returned (.int k b) := by rw [h]
theorem ret_b {a b : Bool} (h : a = b) : Ending.returned (.bool a) = .returned (.bool b) := by rw [h]

end Go.Proofs.YtfdenbgmogojeaaDoor
