/- Contract of math/bits.TrailingZeros64 of a number that is not 0: the power of 2 in it. Condition: the table deBruijn64tab holds what the package's text lays. -/
import Derived.Test.YtfdenbgmogojeaaDoorFloC
import Derived.Laws.BitsAllLaws
namespace Go.Proofs.YtfdenbgmogojeaaDoor
open Go.RowKit

/-- The table of the places. -/
def dbL : List Int := [0, 1, 56, 2, 57, 49, 28, 3, 61, 58, 42, 50, 38, 29, 17, 4, 62, 47, 59, 36, 45, 43, 51, 22, 53, 39, 33, 30, 24, 18, 12, 5, 63, 55, 48, 27, 60, 41, 37, 16, 46, 35, 44, 21, 52, 32, 23, 11, 54, 26, 40, 15, 34, 20, 31, 10, 25, 14, 19, 9, 13, 8, 7, 6]
def DB (w : World) : Prop := ∀ (i : Nat) (n : Int), dbL[i]? = some n → w.cell? ⟨1, i, none⟩ = some (.int .u8 n)
def tzI (t : Nat) : Nat := (2 ^ t * 285870213051353865) % 18446744073709551616 / 288230376151711744
theorem db_tz : ∀ t : Fin 64, dbL[tzI t.1]? = some (t.1 : Int) := by decide +kernel
theorem tzI_lt : ∀ t : Fin 64, tzI t.1 < 64 := by decide +kernel

theorem and_comp (n q : Nat) (h : q < 2 ^ n) : q &&& (2 ^ n - (q + 1)) = 0 := by
  apply Nat.eq_of_testBit_eq
  intro i
  rw [Nat.testBit_and, Nat.testBit_two_pow_sub_succ h]
  by_cases c : q.testBit i <;> simp [c]

theorem and_neg_odd (n m : Nat) (hm : m % 2 = 1) (h : m < 2 ^ (n + 1)) : m &&& (2 ^ (n + 1) - m) = 1 := by
  have hp : 2 ^ (n + 1) = 2 * 2 ^ n := by rw [Nat.pow_succ, Nat.mul_comm]
  have e1 : (m &&& (2 ^ (n + 1) - m)) / 2 = 0 := by
    rw [Nat.and_div_two, show (2 ^ (n + 1) - m) / 2 = 2 ^ n - (m / 2 + 1) by omega]
    exact and_comp n (m / 2) (by omega)
  have e2 : (m &&& (2 ^ (n + 1) - m)) % 2 = 1 := by
    have := Nat.and_mod_two_pow (a := m) (b := 2 ^ (n + 1) - m) (n := 1)
    rw [Nat.pow_one, hm, show (2 ^ (n + 1) - m) % 2 = 1 by omega] at this
    exact this
  omega

theorem and_neg (t m : Nat) (ht : t < 64) (hm : m % 2 = 1) (h : 2 ^ t * m < 18446744073709551616) : (2 ^ t * m) &&& (18446744073709551616 - 2 ^ t * m) = 2 ^ t := by
  have e : 18446744073709551616 = 2 ^ t * 2 ^ ((63 - t) + 1) := by rw [← Nat.pow_add, show t + (63 - t + 1) = 64 by omega]
  have hl : m < 2 ^ ((63 - t) + 1) := by
    rw [e] at h; exact Nat.lt_of_mul_lt_mul_left h
  rw [e, ← Nat.mul_sub, Nat.mul_comm (2 ^ t) m, Nat.mul_comm (2 ^ t) (_ - m), ← Nat.shiftLeft_eq, ← Nat.shiftLeft_eq, ← Nat.shiftLeft_and_distrib, and_neg_odd _ m hm hl, Nat.shiftLeft_eq, Nat.one_mul]

theorem and_neg_u64 (t m : Nat) (ht : t < 64) (hm : m % 2 = 1) (h : 2 ^ t * m < 18446744073709551616) :
    bits .and .u64 ((2 ^ t * m : Nat) : Int) (IntKind.u64.wrap (-((2 ^ t * m : Nat) : Int))) = ((2 ^ t : Nat) : Int) := by
  have hp : 0 < 2 ^ t * m := Nat.mul_pos (Nat.two_pow_pos t) (by omega)
  have ha := and_neg t m ht hm h
  revert hp h ha
  generalize 2 ^ t * m = x
  generalize 2 ^ t = p
  intro h hp ha
  rw [show IntKind.u64.wrap (-(x : Int)) = ((18446744073709551616 - x : Nat) : Int) by rw [IntKind.wrap_u64]; omega, bits_and_u64_nat _ _ h (by omega), ha]

theorem tz_idx (t : Nat) : IntKind.u64.wrap (((2 ^ t : Nat) : Int) * 285870213051353865) / 288230376151711744 = (tzI t : Int) := by
  rw [IntKind.wrap_u64]; unfold tzI
  generalize 2 ^ t = p
  omega

set_option maxHeartbeats 1000000 in
theorem tz_walk (x p T : Int) (i : Nat) (hx : (x == 0) = false) (h1 : bits .and .u64 x (IntKind.u64.wrap (-x)) = p) (h2 : IntKind.u64.wrap (p * 285870213051353865) / 288230376151711744 = (i : Int)) (hi : i < 64) (hT0 : 0 ≤ T) (hT1 : T < 64) (w : World) (hw : w.cell? ⟨1, i, none⟩ = some (.int .u8 T)) :
    Calls Tryd.prog 91 #[.int .u64 x] w fun e w' => e = .returned (.int .i64 T) ∧ w = w' := by
  have hn := World.block_lt_of_cell? w _ hw
  go_enter Tryd.func91, Tryd.ntmps91
  go_wp2
  go_ret
  exact ⟨rfl, rfl⟩

theorem tz_c (t m : Nat) (ht : t < 64) (hm : m % 2 = 1) (h : 2 ^ t * m < 18446744073709551616) (w : World) (hd : DB w) :
    Calls Tryd.prog 91 #[.int .u64 ((2 ^ t * m : Nat) : Int)] w fun e w' => e = .returned (.int .i64 (t : Int)) ∧ w = w' := by
  have hw := hd (tzI t) t (db_tz ⟨t, ht⟩)
  have hi : tzI t < 64 := tzI_lt ⟨t, ht⟩
  have hx0 : 0 < 2 ^ t * m := Nat.mul_pos (Nat.two_pow_pos t) (by omega)
  have h1 := and_neg_u64 t m ht hm h
  have h2 := tz_idx t
  have hx : (((2 ^ t * m : Nat) : Int) == 0) = false := by
    generalize 2 ^ t * m = x at hx0
    simp; omega
  exact tz_walk _ _ _ _ hx h1 h2 hi (by omega) (by omega) w hw
end Go.Proofs.YtfdenbgmogojeaaDoor
