/- How many binary digits a number has: plain mathematics, no program, no condition but those written at each lemma. -/
import Derived.Lib.Strings
import Derived.Lib.Slices
import Derived.Lib.Small
import Derived.Lib.Walk
import Derived.Lib.BitFns
namespace Go.Proofs.YtfdenbgmogojeaaDoor
open Go

/-! How many binary digits a number has. -/
def bl (n : Nat) : Nat := if n = 0 then 0 else n.log2 + 1
theorem bl_zero : bl 0 = 0 := rfl
theorem bl_lt (n : Nat) : n < 2 ^ bl n := by
  unfold bl; split
  · subst n; decide
  · exact Nat.lt_log2_self
theorem bl_le (n : Nat) (h : n ≠ 0) : 2 ^ (bl n - 1) ≤ n := by
  unfold bl; rw [if_neg h]; exact Nat.log2_self_le h
theorem bl_pos (n : Nat) (h : n ≠ 0) : 0 < bl n := by unfold bl; rw [if_neg h]; omega
/-- The one L with 2^(L-1) ≤ n < 2^L. -/
theorem bl_eq (n L : Nat) (h : n ≠ 0) (h1 : 2 ^ (L - 1) ≤ n) (h2 : n < 2 ^ L) : bl n = L := by
  have a := bl_lt n
  have b := bl_le n h
  have c := bl_pos n h
  have x1 : bl n - 1 < L := (Nat.pow_lt_pow_iff_right (by decide : 1 < 2)).1 (Nat.lt_of_le_of_lt b h2)
  have x2 : L - 1 < bl n := (Nat.pow_lt_pow_iff_right (by decide : 1 < 2)).1 (Nat.lt_of_le_of_lt h1 a)
  rcases Nat.eq_zero_or_pos L with e | e
  · subst e; simp at h2; exact absurd h2 h
  · omega
theorem bl_mono_le (n k : Nat) (h : n < 2 ^ k) : bl n ≤ k := by
  rcases Nat.eq_zero_or_pos n with e | e
  · subst e; simp [bl]
  · have b := bl_le n (by omega)
    have := (Nat.pow_lt_pow_iff_right (by decide : 1 < 2)).1 (Nat.lt_of_le_of_lt b h)
    have := bl_pos n (by omega)
    omega
theorem bl_shr (n k : Nat) (h : 2 ^ k ≤ n) : bl n = k + bl (n / 2 ^ k) := by
  have hp := Nat.two_pow_pos k
  have hq : n / 2 ^ k ≠ 0 := by
    have := (Nat.le_div_iff_mul_le hp).2 (show 1 * 2 ^ k ≤ n by omega); omega
  have a := bl_lt (n / 2 ^ k)
  have b := bl_le _ hq
  have c := bl_pos _ hq
  apply bl_eq n _ (by omega)
  · rw [show k + bl (n / 2 ^ k) - 1 = (bl (n / 2 ^ k) - 1) + k by omega, Nat.pow_add]
    exact (Nat.le_div_iff_mul_le hp).1 b
  · rw [Nat.add_comm, Nat.pow_add]
    exact (Nat.div_lt_iff_lt_mul hp).1 a
theorem bl_libAux : ∀ (f x : Nat), x < 2 ^ f → Lib.bitLenAux f x = bl x
  | 0, x, h => by simp at h; subst h; rfl
  | f + 1, x, h => by
    unfold Lib.bitLenAux
    by_cases e : x = 0
    · rw [if_pos e, e]; rfl
    · rw [if_neg e, bl_libAux f (x / 2) (by rw [Nat.pow_succ] at h; omega)]
      by_cases e1 : x = 1
      · subst e1; rfl
      · rw [bl_shr x 1 (by omega)]
theorem bl_lib (x : Nat) (h : x < 18446744073709551616) : Lib.bitLen x = bl x := bl_libAux 64 x h
theorem len8_bl (b : Int) (h0 : 0 ≤ b) (h1 : b ≤ 255) : Lib.len8 b = (bl b.toNat : Int) := by
  rw [Lib.len8_of b h0 h1, bl_lib _ (by omega)]
theorem len_step (x : Int) (k : Nat) (h0 : 0 ≤ x) (h : ((2 ^ k : Nat) : Int) ≤ x) (y : Int) (hy : y = x / ((2 ^ k : Nat) : Int)) (_hb : y ≤ 255) : (bl x.toNat : Int) = (k : Int) + Lib.len8 y := by
  have hp := Nat.two_pow_pos k
  have hy0 : 0 ≤ y := by rw [hy]; exact Int.ediv_nonneg h0 (by omega)
  rw [len8_bl y hy0 _hb, bl_shr x.toNat k (by omega), hy]
  obtain ⟨n, rfl⟩ := Int.eq_ofNat_of_zero_le h0
  have : ((n : Int) / ((2 ^ k : Nat) : Int)).toNat = n / 2 ^ k := by rw [show ((n : Int) / ((2 ^ k : Nat) : Int)) = ((n / 2 ^ k : Nat) : Int) by simp]; rfl
  rw [this]; simp
theorem len_fin (x : Int) (k : Nat) (c y : Int) (h0 : 0 ≤ x) (hc : c = ((2 ^ k : Nat) : Int)) (h : c ≤ x) (hy : y = x / c) (hb : y ≤ 255) : (bl x.toNat : Int) = (k : Int) + Lib.len8 y ∧ 0 ≤ Lib.len8 y ∧ Lib.len8 y ≤ 8 := by
  subst hc
  have hp := Nat.two_pow_pos k
  have hy0 : 0 ≤ y := by rw [hy]; exact Int.ediv_nonneg h0 (by omega)
  have e := len_step x k h0 h y hy hb
  have l := len8_bl y hy0 hb
  have := bl_mono_le y.toNat 8 (by omega)
  omega
end Go.Proofs.YtfdenbgmogojeaaDoor
