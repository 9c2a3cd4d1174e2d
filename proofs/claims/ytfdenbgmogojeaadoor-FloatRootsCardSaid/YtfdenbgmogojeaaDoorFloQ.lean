/- Plain mathematics of package float's sum, and what bits.Sub64 returns (by the model's own entry); conditions as written at each lemma. -/
import Derived.Test.YtfdenbgmogojeaaDoorProg
import Derived.Test.YtfdenbgmogojeaaDoorFloP
import Derived.Laws.Externs
namespace Go.Proofs.YtfdenbgmogojeaaDoor
open Go Go.RowKit

def subD (x y b : Int) : Int := (((x.toNat + 18446744073709551616 - y.toNat - b.toNat) % 18446744073709551616 : Nat) : Int)
def subB (x y b : Int) : Int := if x.toNat < y.toNat + b.toNat then 1 else 0
def sub64Entry : Array Value → Sem Value := fun args => do
  let (x, y, b) ← Extern.MathBitsCarry.three "Sub64" args
  pure (Extern.MathBitsCarry.pair ((x + Extern.MathBitsCarry.m64 - y - b) % Extern.MathBitsCarry.m64) (if x < y + b then 1 else 0))
theorem run_sub64 (x y b : Int) (hb : b = 0 ∨ b = 1) (w : World) :
    (callFunc 118 #[.int .u64 x, .int .u64 y, .int .u64 b]).run Tryd.prog w = .ok (.value (.tuple #[.int .u64 (subD x y b), .int .u64 (subB x y b)])) w := by
  have h : Extern.find Tryd.f118 = some sub64Entry := by rfl
  rw [run_callFunc_extern (e := sub64Entry) Tryd.func118 (by kernel_rfl) (by kernel_rfl) (by kernel_rfl) h]
  have key : (sub64Entry #[.int .u64 x, .int .u64 y, .int .u64 b]).run Tryd.prog w = .ok (.tuple #[.int .u64 (subD x y b), .int .u64 (subB x y b)]) w := by
    unfold subD subB
    rcases hb with rfl | rfl
    · show Result.ok (Extern.MathBitsCarry.pair _ (if x.toNat < y.toNat + 0 then 1 else 0)) w = _
      simp only [Extern.MathBitsCarry.pair, Extern.MathBitsCarry.m64]
      by_cases c : x.toNat < y.toNat + 0
      · rw [if_pos c, if_pos (show x.toNat < y.toNat + Int.toNat 0 from c)]; rfl
      · rw [if_neg c, if_neg (show ¬ x.toNat < y.toNat + Int.toNat 0 from c)]; rfl
    · show Result.ok (Extern.MathBitsCarry.pair _ (if x.toNat < y.toNat + 1 then 1 else 0)) w = _
      simp only [Extern.MathBitsCarry.pair, Extern.MathBitsCarry.m64]
      by_cases c : x.toNat < y.toNat + 1
      · rw [if_pos c, if_pos (show x.toNat < y.toNat + Int.toNat 1 from c)]; rfl
      · rw [if_neg c, if_neg (show ¬ x.toNat < y.toNat + Int.toNat 1 from c)]; rfl
  rw [key]; rfl

/-- The sum's value, of two numbers in the order of their exponents, d apart: the number and its sign, the exponent being that of the greater one less 64. -/
def sumN (xs xm ys ym : Int) (d : Nat) : Nat :=
  if xs = ys then xm.toNat * 18446744073709551616 + nn ym 0 / 2 ^ d
  else if xm < hiP (nn ym 0 / 2 ^ d) then (ym.toNat - xm.toNat) * 18446744073709551616
  else xm.toNat * 18446744073709551616 - nn ym 0 / 2 ^ d - (if lostB (nn ym 0) d then 1 else 0)
def sumS (xs xm ys ym : Int) (d : Nat) : Int := if xs = ys then xs else if xm < hiP (nn ym 0 / 2 ^ d) then ys else xs
/-- A float's number of digits, and what is so of two of them. -/
def M54 (m : Int) : Prop := 0 ≤ m ∧ m < 18014398509481984
def Ord (xm ym : Int) (d : Nat) : Prop := d = 0 ∨ ym.toNat / 2 ^ d < xm.toNat

theorem nn_y (ym : Int) (h : M54 ym) (d : Nat) : nn ym 0 / 2 ^ d < 18014398509481984 * 18446744073709551616 := by
  obtain ⟨h0, h1⟩ := h
  refine Nat.lt_of_le_of_lt (Nat.div_le_self _ _) ?_
  unfold nn; omega
theorem hi_y (ym : Int) (h : M54 ym) (d : Nat) : hiP (nn ym 0 / 2 ^ d) = ((ym.toNat / 2 ^ d : Nat) : Int) := by
  obtain ⟨n, rfl⟩ := Int.eq_ofNat_of_zero_le h.1
  unfold hiP
  rw [show nn (n : Int) 0 = n * 18446744073709551616 by unfold nn; omega, Nat.div_div_eq_div_mul, Nat.mul_comm (2 ^ d), Nat.mul_comm n, Nat.mul_div_mul_left _ _ (by decide)]
  rfl
theorem sum_same (xs xm ys ym : Int) (d : Nat) (hx : M54 xm) (hy : M54 ym) (h : xs = ys) :
    IntKind.u64.wrap (xm + hiP (nn ym 0 / 2 ^ d)) = hiP (sumN xs xm ys ym d) ∧ loP (nn ym 0 / 2 ^ d) = loP (sumN xs xm ys ym d) := by
  have hb := nn_y ym hy d
  obtain ⟨x, rfl⟩ := Int.eq_ofNat_of_zero_le hx.1
  have hx1 := hx.2
  unfold sumN; rw [if_pos h]
  generalize nn ym 0 / 2 ^ d = Y at *
  rw [IntKind.wrap_u64]; unfold hiP loP; simp only [Int.toNat_natCast]; omega
theorem sum_big (xs xm ys ym : Int) (d : Nat) (hx : M54 xm) (hy : M54 ym) (ho : Ord xm ym d) (h : ¬ xs = ys) (hc : xm < hiP (nn ym 0 / 2 ^ d)) :
    IntKind.u64.wrap (hiP (nn ym 0 / 2 ^ d) - xm) = hiP (sumN xs xm ys ym d) ∧ 0 = loP (sumN xs xm ys ym d) ∧ lostB (nn ym 0) d = false := by
  have hi := hi_y ym hy d
  obtain ⟨x, rfl⟩ := Int.eq_ofNat_of_zero_le hx.1
  obtain ⟨y, rfl⟩ := Int.eq_ofNat_of_zero_le hy.1
  have hx1 := hx.2
  have hy1 := hy.2
  unfold sumN; rw [if_neg h, if_pos hc]
  rw [hi] at hc ⊢
  simp only [Int.toNat_natCast] at hc ⊢
  rcases ho with rfl | ho
  · simp only [Nat.pow_zero, Nat.div_one] at hc ⊢
    refine ⟨?_, ?_, by unfold lostB; simp [Nat.mod_one]⟩
    · rw [IntKind.wrap_u64]; unfold hiP; omega
    · unfold loP; omega
  · simp only [Int.toNat_natCast] at ho; omega
theorem sum_sub (xs xm ys ym : Int) (d : Nat) (b : Int) (hx : M54 xm) (hy : M54 ym) (ho : Ord xm ym d) (h : ¬ xs = ys) (hc : ¬ xm < hiP (nn ym 0 / 2 ^ d)) (hb : b = if lostB (nn ym 0) d then 1 else 0) :
    subD xm (hiP (nn ym 0 / 2 ^ d)) (subB 0 (loP (nn ym 0 / 2 ^ d)) b) = hiP (sumN xs xm ys ym d) ∧ subD 0 (loP (nn ym 0 / 2 ^ d)) b = loP (sumN xs xm ys ym d) := by
  have hi := hi_y ym hy d
  have hby := nn_y ym hy d
  have h0 : d = 0 → loP (nn ym 0 / 2 ^ d) = 0 ∧ lostB (nn ym 0) d = false := by
    rintro rfl
    refine ⟨?_, by unfold lostB; simp [Nat.mod_one]⟩
    have := hy.1
    unfold loP nn; simp; omega
  obtain ⟨x, rfl⟩ := Int.eq_ofNat_of_zero_le hx.1
  have hx1 := hx.2
  unfold sumN; rw [if_neg h, if_neg hc]
  unfold Ord at ho
  generalize ym.toNat / 2 ^ d = q at *
  generalize hl : lostB (nn ym 0) d = l at *
  generalize nn ym 0 / 2 ^ d = Y at *
  simp only [Int.toNat_natCast] at *
  have hb01 : b = 0 ∨ b = 1 := by cases l <;> simp at hb <;> omega
  have hq : (q : Int) = ((Y / 18446744073709551616 : Nat) : Int) := by rw [← hi]; rfl
  have hw : l = true → q < x := by
    intro e; subst e
    rcases ho with hd | ho
    · exact absurd (h0 hd).2 (by decide)
    · exact ho
  have hz : l = false → q < x ∨ loP Y = 0 := by
    intro _
    rcases ho with hd | ho
    · exact .inr (h0 hd).1
    · exact .inl ho
  clear h0 ho
  unfold subD subB hiP loP at *
  simp only [Int.toNat_natCast] at *
  cases l
  · simp only [if_false, Bool.false_eq_true] at *
    subst hb
    have hz := hz trivial
    split <;> omega
  · simp only [if_true] at *
    subst hb
    have hw := hw trivial
    split <;> omega
end Go.Proofs.YtfdenbgmogojeaaDoor
