/- The plain mathematics of round: what is kept fits, and the float's bits are those of the exponent and the kept digits; no program; conditions as written at each lemma. -/
import Derived.Test.YtfdenbgmogojeaaDoorFloN
namespace Go.Proofs.YtfdenbgmogojeaaDoor
open Go Go.RowKit

/-- The exponent of the last digit of the least floats. -/
def low (D : Int) : Int := if D = 11 then -24 else if D = 24 then -149 else -1074
/-- Does a mode go to the infinite ones? -/
def toInf (mode sign : Int) : Bool := mode == 0 || (mode == 2 && sign == 1) || (mode == 3 && sign == 0)
def ovF (W D mode sign : Int) : Int := if toInf mode sign then jn W sign (endl D) else jn W sign (endl D - 1)
def Mode (m : Int) : Prop := m = 0 ∨ m = 1 ∨ m = 2 ∨ m = 3
def Sgn (s : Int) : Prop := s = 0 ∨ s = 1

theorem hid_pow (W D E : Int) (h : KL W D E) : hid D = ((2 ^ (D.toNat - 1) : Nat) : Int) ∧ (2 ^ D.toNat : Nat) = 2 * 2 ^ (D.toNat - 1) ∧ 11 ≤ D ∧ D ≤ 53 := by
  rcases h with ⟨rfl, rfl, rfl⟩ | ⟨rfl, rfl, rfl⟩ | ⟨rfl, rfl, rfl⟩ <;> decide

/-- When a value is rounded to 'last', the exponent of its last digit. -/
def lastF (D : Int) (n : Nat) (e : Int) : Int := max (e + (bl n : Int) - D) (low D)
def keptF (D : Int) (n : Nat) (e : Int) : Int := cutK n (lastF D n e - e)
def restF (D : Int) (n : Nat) (e : Int) (more : Bool) : Int := cutR n more (lastF D n e - e)
def mF (D mode sign : Int) (n : Nat) (e : Int) (more : Bool) : Int :=
  if stepsF mode sign (keptF D n e) (restF D n e more) then keptF D n e + 1 else keptF D n e
def sizeF (D mode sign : Int) (n : Nat) (e : Int) (more : Bool) : Int := (lastF D n e - low D) * hid D + mF D mode sign n e more
def flagF (D : Int) (n : Nat) (e : Int) (more : Bool) : Int := if restF D n e more = 0 then 0 else if e + (bl n : Int) - D < low D then 24 else 16
/-- The float that the value n * 2^e, and more, rounds to, and its flags. -/
def roundF (W D mode sign : Int) (n : Nat) (e : Int) (more : Bool) : Int × Int :=
  if endl D ≤ sizeF D mode sign n e more then (ovF W D mode sign, 20) else (jn W sign (sizeF D mode sign n e more), flagF D n e more)

theorem cutR_r (n : Nat) (more : Bool) (k : Int) : cutR n more k = 0 ∨ cutR n more k = 1 ∨ cutR n more k = 2 ∨ cutR n more k = 3 := by
  unfold cutR; repeat' split
  all_goals simp
theorem steps_0 (mode sign kept : Int) : stepsF mode sign kept 0 = false := by simp [stepsF]

theorem round_cut (W D E : Int) (h : KL W D E) (hi lo k : Int) (a : U64 hi) (b : U64 lo) (hn : nn hi lo ≠ 0) (hk : (bl (nn hi lo) : Int) - D ≤ k) :
    ((0 < k ∧ nn hi lo / 2 ^ (k - 1).toNat < 18446744073709551616) ∨ (k ≤ 0 ∧ -63 ≤ k ∧ hi = 0 ∧ lo.toNat * 2 ^ (-k).toNat < 18446744073709551616)) ∧
    0 ≤ cutK (nn hi lo) k ∧ cutK (nn hi lo) k < 2 * hid D := by
  obtain ⟨hp, hd, d1, d2⟩ := hid_pow W D E h
  have hlt := bl_lt (nn hi lo)
  have hpos := bl_pos _ hn
  generalize hL : bl (nn hi lo) = L at *
  have hd' : 2 * hid D = ((2 ^ D.toNat : Nat) : Int) := by rw [hp, hd]; simp
  rw [hd']
  have h54 : (2 : Nat) ^ (D.toNat + 1) ≤ 2 ^ 54 := Nat.pow_le_pow_right (by decide) (by omega)
  by_cases c : 0 < k
  · have e1 : nn hi lo < 2 ^ (D.toNat + 1) * 2 ^ (k - 1).toNat := by
      rw [← Nat.pow_add]; exact Nat.lt_of_lt_of_le hlt (Nat.pow_le_pow_right (by decide) (by omega))
    have e2 : nn hi lo < 2 ^ D.toNat * 2 ^ k.toNat := by
      rw [← Nat.pow_add]; exact Nat.lt_of_lt_of_le hlt (Nat.pow_le_pow_right (by decide) (by omega))
    have f1 := (Nat.div_lt_iff_lt_mul (Nat.two_pow_pos (k - 1).toNat)).2 e1
    have f2 := (Nat.div_lt_iff_lt_mul (Nat.two_pow_pos k.toNat)).2 e2
    refine ⟨.inl ⟨c, by omega⟩, ?_⟩
    unfold cutK; rw [if_neg (by omega)]; exact ⟨Int.natCast_nonneg _, Int.ofNat_lt.2 f2⟩
  · have e0 : nn hi lo < 2 ^ 53 := Nat.lt_of_lt_of_le hlt (Nat.pow_le_pow_right (by decide) (by omega))
    have hz : hi = 0 := by
      obtain ⟨a0, a1⟩ := a; obtain ⟨b0, b1⟩ := b
      unfold nn at e0; omega
    subst hz
    have e1 : nn 0 lo * 2 ^ (-k).toNat < 2 ^ D.toNat := by
      have : nn 0 lo * 2 ^ (-k).toNat < 2 ^ L * 2 ^ (-k).toNat := Nat.mul_lt_mul_of_pos_right hlt (Nat.two_pow_pos _)
      rw [← Nat.pow_add] at this
      exact Nat.lt_of_lt_of_le this (Nat.pow_le_pow_right (by decide) (by omega))
    rw [Nat.pow_succ] at h54
    refine ⟨.inr ⟨by omega, by omega, rfl, ?_⟩, ?_⟩
    · rw [nn_zero] at e1; omega
    · unfold cutK; rw [if_pos (by omega)]; exact ⟨Int.natCast_nonneg _, Int.ofNat_lt.2 e1⟩

/-- All that the walk of round asks of numbers. -/
theorem round_nums (W D E : Int) (h : KL W D E) (mode s hi lo e : Int) (more : Bool) (a : U64 hi) (b : U64 lo) (hn : nn hi lo ≠ 0)
    (e0 : -100000 ≤ e) (e1 : e + (bl (nn hi lo) : Int) - D - low D ≤ 4000) :
    (0 ≤ lastF D (nn hi lo) e - low D ∧ lastF D (nn hi lo) e - low D ≤ 4000) ∧ (lastF D (nn hi lo) e - e ≤ 110000) ∧
    (0 ≤ mF D mode s (nn hi lo) e more ∧ mF D mode s (nn hi lo) e more ≤ 2 * hid D) ∧ (1024 ≤ hid D ∧ hid D ≤ 4503599627370496) ∧
    (0 ≤ (lastF D (nn hi lo) e - low D) * hid D ∧ (lastF D (nn hi lo) e - low D) * hid D ≤ 4000 * hid D) ∧ (0 ≤ keptF D (nn hi lo) e ∧ keptF D (nn hi lo) e < 2 * hid D) ∧ (-1074 ≤ low D ∧ low D ≤ -24) := by
  have hh : (1024 ≤ hid D ∧ hid D ≤ 4503599627370496) ∧ (-1074 ≤ low D ∧ low D ≤ -24) ∧ 11 ≤ D := by rcases h with ⟨rfl, rfl, rfl⟩ | ⟨rfl, rfl, rfl⟩ | ⟨rfl, rfl, rfl⟩ <;> decide
  have hb : (bl (nn hi lo) : Int) ≤ 128 := by have := bl_mono_le _ 128 (nn_lt hi lo a b); omega
  have hl : e + (bl (nn hi lo) : Int) - D ≤ lastF D (nn hi lo) e ∧ low D ≤ lastF D (nn hi lo) e ∧ (lastF D (nn hi lo) e = low D ∨ lastF D (nn hi lo) e = e + (bl (nn hi lo) : Int) - D) := by
    unfold lastF; omega
  have hc := round_cut W D E h hi lo (lastF D (nn hi lo) e - e) a b hn (by omega)
  have hp : 0 ≤ (lastF D (nn hi lo) e - low D) * hid D ∧ (lastF D (nn hi lo) e - low D) * hid D ≤ 4000 * hid D :=
    ⟨Int.mul_nonneg (by omega) (by omega), Int.mul_le_mul_of_nonneg_right (by omega) (by omega)⟩
  have hk : 0 ≤ keptF D (nn hi lo) e ∧ keptF D (nn hi lo) e < 2 * hid D := hc.2
  refine ⟨by omega, by omega, ?_, hh.1, hp, hk, hh.2.1⟩
  unfold mF; split <;> omega

theorem steps_r (mode sign kept rest : Int) (r S : Bool) (hr : (rest != 0) = r) (hS : stepsF mode sign kept rest = S) : (S && !r) = false := by
  cases r
  · have : rest = 0 := by simpa using hr
    subst this; rw [steps_0] at hS; subst hS; rfl
  · simp
theorem round_fin (W D mode s e : Int) (n : Nat) (more : Bool) (r T O : Bool) (hr : (restF D n e more != 0) = r) (hT : decide (e + (bl n : Int) - D < low D) = T) (hO : decide (endl D ≤ sizeF D mode s n e more) = O) :
    roundF W D mode s n e more = if O = true then (ovF W D mode s, 20) else (jn W s (sizeF D mode s n e more), if r = true then (if T = true then 24 else 16) else 0) := by
  unfold roundF flagF
  subst hO; subst hT; subst hr
  simp only [decide_eq_true_eq, bne_iff_ne, ne_eq]
  by_cases c : restF D n e more = 0
  · simp [c]
  · simp [c]
theorem size_w (W D E : Int) (h : KL W D E) (mode s e : Int) (n : Nat) (more : Bool)
    (x8 : 0 ≤ (lastF D n e - low D) * hid D) (x9 : (lastF D n e - low D) * hid D ≤ 4000 * hid D) (x6 : 1024 ≤ hid D) (x7 : hid D ≤ 4503599627370496)
    (x10 : 0 ≤ keptF D n e) (x11 : keptF D n e < 2 * hid D) :
    IntKind.u64.wrap (IntKind.u64.wrap ((lastF D n e - low D) * 2 ^ (D.toNat - 1)) + if stepsF mode s (keptF D n e) (restF D n e more) = true then keptF D n e + 1 else keptF D n e) = sizeF D mode s n e more := by
  have hp := (hid_pow W D E h).1
  have e2 : (2 : Int) ^ (D.toNat - 1) = hid D := by rw [hp]; simp
  rw [e2, IntKind.wrap_u64 ((lastF D n e - low D) * hid D)]
  unfold sizeF mF
  generalize (lastF D n e - low D) * hid D = q at *
  rw [IntKind.wrap_u64]
  split <;> omega
end Go.Proofs.YtfdenbgmogojeaaDoor
