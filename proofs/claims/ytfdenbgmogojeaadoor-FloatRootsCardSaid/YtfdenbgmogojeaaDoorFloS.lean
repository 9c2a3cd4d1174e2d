/- The plain mathematics of adding two floats: the float and the flags; no program. -/
import Derived.Test.YtfdenbgmogojeaaDoorFloQ
import Derived.Test.YtfdenbgmogojeaaDoorFloB
namespace Go.Proofs.YtfdenbgmogojeaaDoor
open Go Go.RowKit

theorem nn_parts (n : Nat) : nn (hiP n) (loP n) = n := by unfold nn hiP loP; omega
theorem or_nz (n : Nat) (h : n < 2 ^ 128) : (bits .or .u64 (hiP n) (loP n) != 0) = decide (n ≠ 0) := by
  have e : bits .or .u64 (hiP n) (loP n) = ((n / 18446744073709551616 ||| n % 18446744073709551616 : Nat) : Int) := u64_or_nat _ _ (by omega) (by omega)
  rw [e, Bool.eq_iff_iff]
  simp only [bne_iff_ne, decide_eq_true_eq, ne_eq]
  constructor
  · intro hne hz; subst hz; exact hne rfl
  · intro hne hz
    have : n / 18446744073709551616 ||| n % 18446744073709551616 = 0 := by omega
    have := Nat.or_eq_zero_iff.1 this
    omega
theorem sumN_lt (xs xm ys ym : Int) (d : Nat) (hx : M54 xm) (hy : M54 ym) : sumN xs xm ys ym d < 2 ^ 119 := by
  have hb := nn_y ym hy d
  obtain ⟨x0, x1⟩ := hx
  obtain ⟨y0, y1⟩ := hy
  unfold sumN
  generalize nn ym 0 / 2 ^ d = Y at *
  repeat' split
  all_goals omega
theorem sumS_s (xs xm ys ym : Int) (d : Nat) (hx : Sgn xs) (hy : Sgn ys) : Sgn (sumS xs xm ys ym d) := by
  unfold sumS; repeat' split
  all_goals assumption

/-- The number and sign of a finite sum, its exponent and whether digits were lost. -/
def fN (sx mx ex sy my ey : Int) : Nat := if ex < ey then sumN sy my sx mx (ey - ex).toNat else sumN sx mx sy my (ex - ey).toNat
def fS (sx mx ex sy my ey : Int) : Int := if ex < ey then sumS sy my sx mx (ey - ex).toNat else sumS sx mx sy my (ex - ey).toNat
def fL (mx ex my ey : Int) : Bool := if ex < ey then lostB (nn mx 0) (ey - ex).toNat else lostB (nn my 0) (ex - ey).toNat
def fE (ex ey : Int) : Int := (if ex < ey then ey else ex) - 64
/-- The sum of two finite floats. -/
def finSum (W D mode sx mx ex sy my ey : Int) : Int × Int :=
  if fN sx mx ex sy my ey = 0 then (if sx = sy then (jn W sx 0, 0) else if mode = 2 then (jn W 1 0, 0) else (jn W 0 0, 0))
  else roundF W D mode (fS sx mx ex sy my ey) (fN sx mx ex sy my ey) (fE ex ey) (fL mx ex my ey)
def numAdd (W D mode cx sx mx ex cy sy my ey : Int) : Int × Int :=
  if cx = 3 ∧ cy = 3 ∧ sx ≠ sy then (jn W 0 (qz D), 1)
  else if cx = 3 then (jn W sx (endl D), 0)
  else if cy = 3 then (jn W sy (endl D), 0)
  else finSum W D mode sx mx ex sy my ey
/-- Two finite floats whose sum is in round's range. -/
structure Fin2 (sx mx ex sy my ey : Int) : Prop where
  hsx : Sgn sx
  hsy : Sgn sy
  hmx : M54 mx
  hmy : M54 my
  hx0 : -1100 ≤ ex
  hx1 : ex ≤ 1000
  hy0 : -1100 ≤ ey
  hy1 : ey ≤ 1000
  o1 : ey ≤ ex → Ord mx my (ex - ey).toNat
  o2 : ex ≤ ey → Ord my mx (ey - ex).toNat
theorem Fin2.lt {sx mx ex sy my ey : Int} (h : Fin2 sx mx ex sy my ey) : fN sx mx ex sy my ey < 2 ^ 119 := by
  unfold fN; split
  · exact sumN_lt _ _ _ _ _ h.hmy h.hmx
  · exact sumN_lt _ _ _ _ _ h.hmx h.hmy
theorem Fin2.s {sx mx ex sy my ey : Int} (h : Fin2 sx mx ex sy my ey) : Sgn (fS sx mx ex sy my ey) := by
  unfold fS; split
  · exact sumS_s _ _ _ _ _ h.hsy h.hsx
  · exact sumS_s _ _ _ _ _ h.hsx h.hsy
theorem Fin2.range {sx mx ex sy my ey W D E : Int} (h : Fin2 sx mx ex sy my ey) (hk : KL W D E) :
    -100000 ≤ fE ex ey ∧ fE ex ey + (bl (fN sx mx ex sy my ey) : Int) - D - low D ≤ 4000 := by
  have hb := bl_mono_le _ 119 h.lt
  obtain ⟨_, _, _, _, x0, x1, y0, y1, _, _⟩ := h
  have hh : 11 ≤ D ∧ D ≤ 53 ∧ -1074 ≤ low D := by rcases hk with ⟨rfl, rfl, rfl⟩ | ⟨rfl, rfl, rfl⟩ | ⟨rfl, rfl, rfl⟩ <;> decide
  unfold fE; split <;> omega
end Go.Proofs.YtfdenbgmogojeaaDoor
