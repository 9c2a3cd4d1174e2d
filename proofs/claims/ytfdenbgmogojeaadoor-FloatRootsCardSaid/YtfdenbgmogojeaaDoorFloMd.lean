/- Contracts of package float's Mul and Div, for every kind, mode and two floats of it: the rounded product and quotient, and their flags; ErrArg where an operand, the mode or the kind is none. -/
import Derived.Test.YtfdenbgmogojeaaDoorFloSb
import Derived.Lib.Mul64
import Derived.Laws.Bits64b
import Derived.Test.YtfdenbgmogojeaaDoorFloD
import Derived.Deep.DeepCutAuto
import Derived.Deep.CutBlock
import Derived.Deep.QuietTactic
import Derived.BigQuiet
import Derived.Test.YtfdenbgmogojeaaDoorFloDc
namespace Go.Proofs.YtfdenbgmogojeaaDoor
open Go.RowKit Go.Lib

theorem mk32 (a : Nat) (ha : a < 18446744073709551616) : bits .and .u64 (a : Int) 4294967295 = ((a % 4294967296 : Nat) : Int) := by
  have h := bits_and_u64_nat a 4294967295 ha (by omega)
  have e : a &&& 4294967295 = a % 4294967296 := Nat.and_two_pow_sub_one_eq_mod a 32
  rw [e] at h
  exact h
theorem dv32 (a : Nat) : (a : Int) / 4294967296 = ((a / 4294967296 : Nat) : Int) := by omega
theorem mulNN (a b : Nat) : (a : Int) * (b : Int) = ((a * b : Nat) : Int) := (Int.natCast_mul a b).symm
theorem addNN (a b : Nat) : (a : Int) + (b : Int) = ((a + b : Nat) : Int) := (Int.natCast_add a b).symm
theorem wrNN (a : Nat) (ha : a < 18446744073709551616) : IntKind.u64.wrap (a : Int) = (a : Int) := by rw [IntKind.wrap_u64]; omega
theorem wrMM (a : Nat) : IntKind.u64.wrap (a : Int) = ((a % 18446744073709551616 : Nat) : Int) := by rw [IntKind.wrap_u64]; omega

set_option maxHeartbeats 1000000 in
theorem Mul64_c (x y : Nat) (hx : x < 18446744073709551616) (hy : y < 18446744073709551616) (w : World) :
    Calls Tryd.prog 104 #[.int .u64 x, .int .u64 y] w fun e w' => e = .returned (.tuple #[.int .u64 (hiP (x * y)), .int .u64 (loP (x * y))]) ∧ w = w' := by
  obtain ⟨bd, bt, bw, hhi⟩ := Lib.mul64_hi x y hx hy
  have ba := Lib.half_mul_le (a := x / 4294967296) (b := y / 4294967296) (by omega) (by omega)
  have bb := Lib.half_mul_le (a := x / 4294967296) (b := y % 4294967296) (by omega) (by omega)
  have bc := Lib.half_mul_le (a := x % 4294967296) (b := y / 4294967296) (by omega) (by omega)
  have ba' : x / 4294967296 * (y / 4294967296) < 18446744073709551616 := by omega
  have bb' : x / 4294967296 * (y % 4294967296) < 18446744073709551616 := by omega
  have bc' : x % 4294967296 * (y / 4294967296) < 18446744073709551616 := by omega
  have bh1 : x / 4294967296 * (y / 4294967296) + (x / 4294967296 * (y % 4294967296) + x % 4294967296 * (y % 4294967296) / 4294967296) / 4294967296 < 18446744073709551616 := by omega
  have bh : x / 4294967296 * (y / 4294967296) + (x / 4294967296 * (y % 4294967296) + x % 4294967296 * (y % 4294967296) / 4294967296) / 4294967296 + ((x / 4294967296 * (y % 4294967296) + x % 4294967296 * (y % 4294967296) / 4294967296) % 4294967296 + x % 4294967296 * (y / 4294967296)) / 4294967296 < 18446744073709551616 := by omega
  go_enter Tryd.func104, Tryd.ntmps104
  go_wp2
  simp only [mk32 x hx, mk32 y hy, dv32, mulNN, addNN, wrNN _ bd, wrNN _ bb', wrNN _ bt, mk32 _ bt, wrNN _ bc', wrNN _ bw, wrNN _ ba', wrNN _ bh1, wrNN _ bh, wrMM (x * y)]
  rw [hhi]
  go_ret2
  exact ⟨rfl, rfl⟩

/-- The product of two floats that are taken apart. -/
def sgX (sx sy : Int) : Int := if sx = sy then 0 else 1
def numMul (W D mode cx sx mx ex cy sy my ey : Int) : Int × Int :=
  if (cx = 0 ∨ cy = 0) ∧ (cx = 3 ∨ cy = 3) then (jn W 0 (qz D), 1)
  else if cx = 3 ∨ cy = 3 then (jn W (sgX sx sy) (endl D), 0)
  else if cx = 0 ∨ cy = 0 then (jn W (sgX sx sy) 0, 0)
  else roundF W D mode (sgX sx sy) (mx.toNat * my.toNat) (ex + ey) false
theorem sgX_s (sx sy : Int) : Sgn (sgX sx sy) := by unfold sgX Sgn; split <;> simp
theorem sgX_x (sx sy : Int) (hx : Sgn sx) (hy : Sgn sy) : bits .xor .i64 sx sy = sgX sx sy := by
  rcases hx with rfl | rfl <;> rcases hy with rfl | rfl <;> rfl

set_option maxHeartbeats 8000000 in
theorem mul_sp (W D E mode cx sx mx ex cy sy my ey : Int) (h : KL W D E) (hsx : Sgn sx) (hsy : Sgn sy) (a0 a3 b0 b3 : Bool) (h1 : (cx == 0) = a0) (h2 : (cx == 3) = a3) (h3 : (cy == 0) = b0) (h4 : (cy == 3) = b3) (hsp : (a0 || a3 || b0 || b3) = true) (hx : (a0 && a3) = false) (hy : (b0 && b3) = false) (r1 r2 : Int)
    (hr : (r1, r2) = if (a0 || b0) && (a3 || b3) then (jn W 0 (qz D), 1) else if a3 || b3 then (jn W (sgX sx sy) (endl D), 0) else (jn W (sgX sx sy) 0, 0)) (w : World) :
    Calls Tryd.prog 63 #[lay W D E, .int .i64 mode, num cx sx mx ex, num cy sy my ey] w fun e w' => e = .returned (.tuple #[.int .i64 r1, .int .i64 r2]) ∧ Below w.heap.size w w' := by
  have hxo := sgX_x sx sy hsx hsy
  have hS := sgX_s sx sy
  generalize sgX sx sy = sg at *
  have Hs := Lib.hid hS; clear hS
  have hh := Lib.hid (show (0 : Int) ≤ 0 ∧ (0 : Int) < Go.Proofs.YtfdenbgmogojeaaDoor.hf W from ⟨by omega, by have := (one_b h).2; omega⟩)
  clear hsx hsy
  cases a0 <;> cases a3 <;> cases b0 <;> cases b3 <;> first | (exact absurd hsp (by decide)) | (exact absurd hx (by decide)) | (exact absurd hy (by decide)) | skip
  all_goals
    clear hsp hx hy
    simp only [Bool.or_false, Bool.or_true, Bool.and_true, Bool.and_false, if_true, if_false, Bool.false_eq_true, Prod.mk.injEq] at hr
    obtain ⟨rfl, rfl⟩ := hr
    go_enter Tryd.func63, Tryd.ntmps63
    go_wp2_with (first | (go_at_call 89; refine (quiet_c W D E h _).mono ?_; rintro e w1 ⟨rfl, hb⟩) | (go_at_call 90; refine (infinite_c W D E _ h Hs.out _).mono ?_; rintro e w1 ⟨rfl, hb⟩) | (go_at_call 80; refine (join_c W D E _ 0 h Hs.out hh.out.1 hh.out.2 _).mono ?_; rintro e w1 ⟨rfl, hb⟩) | go_in)
    go_ret2
    exact ⟨rfl, bt (by go_grown) hb⟩
set_option maxHeartbeats 8000000 in
theorem mul_fin (W D E mode cx sx mx ex cy sy my ey : Int) (h : KL W D E) (hm : Mode mode) (hsx : Sgn sx) (hsy : Sgn sy) (h1 : (cx == 0) = false) (h2 : (cx == 3) = false) (h3 : (cy == 0) = false) (h4 : (cy == 3) = false)
    (hmx : M54 mx) (hmy : M54 my) (px : 0 < mx) (py : 0 < my) (ex0 : -1100 ≤ ex) (ex1 : ex ≤ 1000) (ey0 : -1100 ≤ ey) (ey1 : ey ≤ 1000) (w : World) :
    Calls Tryd.prog 63 #[lay W D E, .int .i64 mode, num cx sx mx ex, num cy sy my ey] w fun e w' => e = .returned (.tuple #[.int .i64 (roundF W D mode (sgX sx sy) (mx.toNat * my.toNat) (ex + ey) false).1, .int .i64 (roundF W D mode (sgX sx sy) (mx.toNat * my.toNat) (ex + ey) false).2]) ∧ Below w.heap.size w w' := by
  have hxo := sgX_x sx sy hsx hsy
  have hS := sgX_s sx sy
  generalize sgX sx sy = sg at *
  have Hs := Lib.hid hS; clear hS
  clear hsx hsy
  obtain ⟨X, rfl⟩ := Int.eq_ofNat_of_zero_le hmx.1
  obtain ⟨Y, rfl⟩ := Int.eq_ofNat_of_zero_le hmy.1
  have hX : X < 18014398509481984 := by have := hmx.2; omega
  have hY : Y < 18014398509481984 := by have := hmy.2; omega
  have hX0 : 0 < X := by omega
  have hY0 : 0 < Y := by omega
  rw [Int.toNat_natCast, Int.toNat_natCast]
  have hN : X * Y < 2 ^ 108 := by
    have : X * Y ≤ 18014398509481983 * 18014398509481983 := Nat.mul_le_mul (by omega) (by omega)
    omega
  have hN0 : X * Y ≠ 0 := fun q => by rcases Nat.mul_eq_zero.1 q with q | q <;> omega
  have hb := bl_mono_le _ 108 hN
  have hh : 11 ≤ D ∧ D ≤ 53 ∧ -1074 ≤ low D := by rcases h with ⟨rfl, rfl, rfl⟩ | ⟨rfl, rfl, rfl⟩ | ⟨rfl, rfl, rfl⟩ <;> decide
  have hM := Lib.hid (fun w' => Mul64_c X Y (by omega) (by omega) w')
  have hR := Lib.hid (round_c W D E mode sg (hiP (X * Y)) (loP (X * Y)) (ex + ey) false h hm Hs.out (hiP_u _ (Nat.lt_of_lt_of_le hN (by decide))) (loP_u _) (by rw [nn_parts]; exact hN0) (by omega) (by rw [nn_parts]; omega))
  rw [nn_parts] at hR
  clear hmx hmy hN hN0 hb hh px py hX hY hX0 hY0
  go_enter Tryd.func63, Tryd.ntmps63
  go_wp2_with (go_at_call 103; go_in)
  refine (hM.out _).mono ?_
  rintro e w1 ⟨rfl, rfl⟩
  generalize hiP (X * Y) = H at *
  generalize loP (X * Y) = L at *
  go_wp2_with fail
  refine (hR.out _).mono ?_
  rintro e w2 ⟨rfl, hb⟩
  go_wp2
  go_ret2
  exact ⟨rfl, bt (by go_grown) hb⟩
end Go.Proofs.YtfdenbgmogojeaaDoor

namespace Go.Proofs.YtfdenbgmogojeaaDoor
open Go.RowKit

/-- A digit of the quotient: what holds while it is guessed. -/
def DG (U y a b : Nat) : Prop := a ≤ 4294967297 ∧ U * 4294967296 / y ≤ a ∧ b + a * (y / 4294967296) = U
theorem dg_first (U y : Nat) (hy : 9223372036854775808 ≤ y) (_hy1 : y < 18446744073709551616) (hU : U < y) : DG U y (U / (y / 4294967296)) (U - U / (y / 4294967296) * (y / 4294967296)) := by
  obtain ⟨d, hd⟩ : ∃ d, d = y / 4294967296 := ⟨_, rfl⟩
  have d0 : 2147483648 ≤ d := by omega
  rw [← hd]
  have hm := Nat.div_mul_le_self U d
  refine ⟨?_, ?_, by rw [← hd]; omega⟩
  · have : U / d < 4294967298 := by
      rw [Nat.div_lt_iff_lt_mul (by omega)]
      omega
    omega
  · rw [Nat.le_div_iff_mul_le (by omega)]
    have h1 := Nat.div_mul_le_self (U * 4294967296) y
    have h2 : U * 4294967296 / y * (d * 4294967296) ≤ U * 4294967296 / y * y := Nat.mul_le_mul_left _ (by omega)
    rw [← Nat.mul_assoc] at h2
    omega
theorem dg_r (U y : Nat) (hy : 9223372036854775808 ≤ y) (_hy1 : y < 18446744073709551616) : U - U / (y / 4294967296) * (y / 4294967296) < 4294967296 := by
  have h1 := Nat.div_add_mod U (y / 4294967296)
  have h2 := Nat.mod_lt U (show 0 < y / 4294967296 by omega)
  rw [Nat.mul_comm] at h1
  omega
/-- y in its two digits. -/
theorem dg_y (a y : Nat) : a * y = a * (y / 4294967296) * 4294967296 + a * (y % 4294967296) := by
  have h := Nat.div_add_mod y 4294967296
  calc a * y = a * (4294967296 * (y / 4294967296) + y % 4294967296) := by rw [h]
    _ = _ := by rw [Nat.mul_add, Nat.mul_comm 4294967296, Nat.mul_assoc]
theorem dg_end (U y a b : Nat) (hy : 0 < y) (h : DG U y a b) (hc : a * (y % 4294967296) ≤ 4294967296 * b) : a = U * 4294967296 / y := by
  obtain ⟨_, h2, h3⟩ := h
  apply Nat.le_antisymm _ h2
  rw [Nat.le_div_iff_mul_le hy, dg_y, ← h3, Nat.add_mul]
  omega
theorem dg_step (U y a b : Nat) (hy : 0 < y) (hU : U < y) (h : DG U y a b) (hc : 4294967296 ≤ a ∨ 4294967296 * b < a * (y % 4294967296)) : 0 < a ∧ DG U y (a - 1) (b + y / 4294967296) ∧ a - 1 ≤ 4294967296 := by
  obtain ⟨h1, h2, h3⟩ := h
  have ha : 0 < a := by
    rcases hc with c | c
    · omega
    · rcases Nat.eq_zero_or_pos a with q | q
      · rw [q] at c; omega
      · exact q
  have hlt : U * 4294967296 / y < a := by
    rcases hc with c | c
    · have : U * 4294967296 / y < 4294967296 := by rw [Nat.div_lt_iff_lt_mul hy]; omega
      omega
    · rw [Nat.div_lt_iff_lt_mul hy, dg_y a y, ← h3, Nat.add_mul]; omega
  refine ⟨ha, ⟨by omega, by omega, ?_⟩, by omega⟩
  obtain ⟨c, rfl⟩ : ∃ c, a = c + 1 := ⟨a - 1, by omega⟩
  rw [Nat.add_mul] at h3
  show b + y / 4294967296 + (c + 1 - 1) * (y / 4294967296) = U
  rw [Nat.add_sub_cancel]; omega
theorem dg_far (y a b : Nat) (h : a ≤ 4294967296) (hb : 4294967296 ≤ b) : a * (y % 4294967296) ≤ 4294967296 * b := by
  have h1 : a * (y % 4294967296) ≤ 4294967296 * 4294967295 := Nat.mul_le_mul h (by omega)
  omega
theorem dg_mul (y a : Nat) (ha : a ≤ 4294967297) : a * (y % 4294967296) < 18446744073709551616 := by
  have h1 : a * (y % 4294967296) ≤ 4294967297 * 4294967295 := Nat.mul_le_mul ha (by omega)
  omega

theorem dm_sum (a y q v x : Nat) (hq : q = a / y) (hv : v = a % y) (hx : x = q * y) : a = x + v := by
  subst hq hv hx
  have := Nat.div_add_mod a y
  rw [Nat.mul_comm] at this; exact this.symm
theorem dm_two (u y Qa Qc x1 x2 v t : Nat) (hx1 : x1 = Qa * y) (hx2 : x2 = Qc * y) (r1 : u * 4294967296 = x1 + v) (r2 : v * 4294967296 = x2 + t) (ht : t < y) :
    u * 18446744073709551616 / y = Qa * 4294967296 + Qc ∧ u * 18446744073709551616 % y = t := by
  have h1 : u * 18446744073709551616 = (Qa * 4294967296 + Qc) * y + t := by
    rw [Nat.add_mul, Nat.mul_right_comm, ← hx1, ← hx2, show u * 18446744073709551616 = u * 4294967296 * 4294967296 by rw [Nat.mul_assoc], r1, Nat.add_mul, r2, Nat.add_assoc]
  have hy0 : 0 < y := by omega
  rw [h1, Nat.add_comm, Nat.add_mul_div_right _ _ hy0, Nat.div_eq_of_lt ht, Nat.zero_add, Nat.add_mul_mod_self_right, Nat.mod_eq_of_lt ht]
  exact ⟨rfl, rfl⟩

set_option maxRecDepth 100000 in
set_option maxHeartbeats 4000000 in
theorem Div64_c (u y : Nat) (hy : 9223372036854775808 ≤ y) (hy1 : y < 18446744073709551616) (hu : u < y) (hu0 : 0 < u) (w : World) :
    Calls Tryd.prog 119 #[.int .u64 u, .int .u64 0, .int .u64 y] w fun e w' => e = .returned (.tuple #[.int .u64 ((u * 18446744073709551616 / y : Nat) : Int), .int .u64 ((u * 18446744073709551616 % y : Nat) : Int)]) ∧ w = w' := by
  have hbl : bl (y : Int).toNat = 64 := by
    rw [Int.toNat_natCast]
    have h1 := bl_mono_le y 64 (by omega)
    have h2 : 63 < bl y := by
      have h3 := bl_lt y
      rcases Nat.lt_or_ge 63 (bl y) with c | c
      · exact c
      · have := Nat.pow_le_pow_right (by decide : 1 ≤ 2) c; omega
    omega
  have hlz := Lib.hid (fun w' => LeadingZeros64_c (y : Int) (by omega) (by omega) w')
  rw [hbl] at hlz
  have z1 : ((y : Int) == 0) = false := by simp; omega
  have z2 : ((u : Int) == 0) = false := by simp; omega
  have z3 : decide ((y : Int) ≤ (u : Int)) = false := by simp; omega
  have a1 : bits .or .u64 (u : Int) 0 = (u : Int) := by
    have h := bits_or_u64_nat u 0 (by omega) (by omega)
    rw [Nat.or_zero] at h; exact h
  have a3 : bits .and .u64 0 4294967295 = 0 := by decide
  obtain ⟨d, hd⟩ : ∃ d, d = y / 4294967296 := ⟨_, rfl⟩
  obtain ⟨r, hr⟩ : ∃ r, r = y % 4294967296 := ⟨_, rfl⟩
  have a2 : bits .and .u64 (y : Int) 4294967295 = (r : Int) := by
    have h := bits_and_u64_nat y 4294967295 hy1 (by omega)
    have e : y &&& 4294967295 = y % 4294967296 := Nat.and_two_pow_sub_one_eq_mod y 32
    rw [e, ← hr] at h
    exact h
  have a4 : (y : Int) / 4294967296 = (d : Int) := by omega
  have d0 : 2147483648 ≤ d ∧ d < 4294967296 ∧ r < 4294967296 := by omega
  obtain ⟨d0, d1, r1⟩ := d0
  have f1 := dg_first u y hy hy1 hu
  have f2 := dg_r u y hy hy1
  rw [← hd] at f1 f2
  obtain ⟨q, hq⟩ : ∃ q, q = u / d := ⟨_, rfl⟩
  rw [← hq] at f1 f2
  obtain ⟨b, hb⟩ : ∃ b, b = u - q * d := ⟨_, rfl⟩
  rw [← hb] at f1 f2
  have qd : q * d ≤ u := by rw [hq]; exact Nat.div_mul_le_self _ _
  have q1 : q ≤ 4294967297 := f1.1
  have b1 : (u : Int) / d = (q : Int) := by rw [hq]; rfl
  have b2 : (u : Int).tdiv d = (q : Int) := by rw [hq]; rfl
  obtain ⟨m, hm⟩ : ∃ m, m = q * d := ⟨_, rfl⟩
  have b3 : (q : Int) * d = (m : Int) := by rw [hm]; simp
  rw [← hm] at hb qd
  have b4 : (u : Int) - (m : Int) = (b : Int) := by omega
  obtain ⟨Qa, hQa⟩ : ∃ Qa, Qa = u * 4294967296 / y := ⟨_, rfl⟩
  obtain ⟨v, hv⟩ : ∃ v, v = u * 4294967296 % y := ⟨_, rfl⟩
  have hvy : v < y := by rw [hv]; exact Nat.mod_lt _ (by omega)
  have hQb : Qa < 4294967296 := by rw [hQa, Nat.div_lt_iff_lt_mul (by omega)]; omega
  have g1 := dg_first v y hy hy1 hvy
  have g2 := dg_r v y hy hy1
  rw [← hd] at g1 g2
  obtain ⟨q', hq'⟩ : ∃ q', q' = v / d := ⟨_, rfl⟩
  rw [← hq'] at g1 g2
  obtain ⟨b', hb'⟩ : ∃ b', b' = v - q' * d := ⟨_, rfl⟩
  rw [← hb'] at g1 g2
  have qd' : q' * d ≤ v := by rw [hq']; exact Nat.div_mul_le_self _ _
  have q1' : q' ≤ 4294967297 := g1.1
  have b1' : (v : Int) / d = (q' : Int) := by rw [hq']; rfl
  have b2' : (v : Int).tdiv d = (q' : Int) := by rw [hq']; rfl
  obtain ⟨m', hm'⟩ : ∃ m', m' = q' * d := ⟨_, rfl⟩
  have b3' : (q' : Int) * d = (m' : Int) := by rw [hm']; simp
  rw [← hm'] at hb' qd'
  have b4' : (v : Int) - (m' : Int) = (b' : Int) := by omega
  obtain ⟨Qc, hQc⟩ : ∃ Qc, Qc = v * 4294967296 / y := ⟨_, rfl⟩
  obtain ⟨t, ht⟩ : ∃ t, t = v * 4294967296 % y := ⟨_, rfl⟩
  have hQd : Qc < 4294967296 := by rw [hQc, Nat.div_lt_iff_lt_mul (by omega)]; omega
  have hty : t < y := by rw [ht]; exact Nat.mod_lt _ (by omega)
  obtain ⟨x1, hx1⟩ : ∃ x1, x1 = Qa * y := ⟨_, rfl⟩
  obtain ⟨x2, hx2⟩ : ∃ x2, x2 = Qc * y := ⟨_, rfl⟩
  have e1 : (Qa : Int) * y = (x1 : Int) := by rw [hx1]; simp
  have e2 : (Qc : Int) * y = (x2 : Int) := by rw [hx2]; simp
  have r1a : u * 4294967296 = x1 + v := by
    exact dm_sum _ y _ _ _ hQa hv hx1
  have r2a : v * 4294967296 = x2 + t := by
    exact dm_sum _ y _ _ _ hQc ht hx2
  have e3 : IntKind.u64.wrap (IntKind.u64.wrap (IntKind.u64.wrap ((u : Int) * 4294967296)) - IntKind.u64.wrap (x1 : Int)) = (v : Int) := by
    simp only [IntKind.wrap_u64]; omega
  have e4 : IntKind.u64.wrap (IntKind.u64.wrap (IntKind.u64.wrap ((v : Int) * 4294967296)) - IntKind.u64.wrap (x2 : Int)) = (t : Int) := by
    simp only [IntKind.wrap_u64]; omega
  have hfin : u * 18446744073709551616 / y = Qa * 4294967296 + Qc ∧ u * 18446744073709551616 % y = t := by
    exact dm_two u y Qa Qc x1 x2 v t hx1 hx2 r1a r2a hty
  have HY := Lib.hid hy; clear hy
  have HY1 := Lib.hid hy1
  have HU := Lib.hid hu; clear hu
  have HV := Lib.hid hvy; clear hvy
  have n1 : (y : Int) ≤ 18446744073709551615 := by omega
  have n2 : (u : Int) < y := by have := HU.out; omega
  have n3 : (v : Int) < y := by have := HV.out; omega
  have n4 : (d : Int) ≤ 4294967295 := by omega
  have n5 : (2147483648 : Int) ≤ d := by omega
  have n6 : (r : Int) ≤ 4294967295 := by omega
  have n7 : (q : Int) ≤ 4294967297 := by omega
  have n8 : (q' : Int) ≤ 4294967297 := by omega
  have n9 : (m : Int) ≤ u := by omega
  have n10 : (m' : Int) ≤ v := by omega
  have n11 : (Qa : Int) ≤ 4294967295 := by omega
  have n12 : (Qc : Int) ≤ 4294967295 := by omega
  have n13 : (t : Int) < y := by omega
  have n14 : (b : Int) ≤ u := by omega
  have n15 : (b' : Int) ≤ v := by omega
  have F1 := Lib.hid f1; clear f1
  have G1 := Lib.hid g1; clear g1
  have F2 := Lib.hid f2; clear f2
  have G2 := Lib.hid g2; clear g2
  have Hd := Lib.hid hd; clear hd
  have Hr := Lib.hid hr; clear hr
  have HQa := Lib.hid hQa; clear hQa
  have HQc := Lib.hid hQc; clear hQc
  have Hfin := Lib.hid hfin; clear hfin
  clear hbl hq hb hq' hb' hm hm' hv ht hx1 hx2 r1a r2a hy1 q1 q1' qd qd' hQb hQd hty d0 d1 r1 hu0
  have Hsec := Lib.hid (And.intro b1' (And.intro b2' (And.intro b3' (And.intro b4' (And.intro e2 e4)))))
  clear b1' b2' b3' b4' e2 e4
  have Hfst := Lib.hid (And.intro e1 e3)
  clear e1 e3
  have Hn := Lib.hid (And.intro n3 (And.intro n8 (And.intro n10 (And.intro n11 (And.intro n12 (And.intro n13 n15))))))
  clear n3 n8 n10 n11 n12 n13 n15
  go_enter Tryd.func119, Tryd.ntmps119
  go_wp2_with fail
  refine (hlz.out _).mono ?_
  rintro e w1 ⟨rfl, rfl⟩
  go_upto_block 0 with fail
  go_cut [15, 16] (fun x z wr => ∃ Q1 b1 : Nat, x = .int .u64 Q1 ∧ z = .int .u64 b1 ∧ Q1 = u * 4294967296 / y ∧ wr = w)
  case first =>
    go_wp2_with fail
    go_loop [15, 16] (fun x z => ∃ a c : Nat, x = .int .u64 a ∧ z = .int .u64 c ∧ DG u y a c ∧ c < 4294967296) (fun x _ => (intOf x).toNat)
    case atStart => exact ⟨_, _, rfl, rfl, F1.out, F2.out⟩
    case round =>
      obtain ⟨a, c, rfl, rfl, hD, hc⟩ := hrel
      have hY := HY.out
      have ha := hD.1
      have hm1 := dg_mul y a ha
      have hst := dg_step u y a c (by omega) HU.out hD
      have hen := dg_end u y a c (by omega) hD
      rw [← Hr.out] at hm1 hst hen
      rw [← Hd.out] at hst
      obtain ⟨P, hP⟩ : ∃ P, P = a * r := ⟨_, rfl⟩
      rw [← hP] at hm1 hst hen
      have p1 : (a : Int) * r = (P : Int) := by rw [hP]; simp
      have HP := Lib.hid hP; clear hP
      have HD := Lib.hid hD; clear hD
      have Hst := Lib.hid hst; clear hst
      have Hen := Lib.hid hen; clear hen
      have i1 : (a : Int) ≤ 4294967297 := by omega
      have i2 : (c : Int) ≤ 4294967295 := by omega
      have i3 : (P : Int) ≤ 18446744073709551615 := by omega
      have i4 : (0 : Int) ≤ a := by omega
      have i5 : (0 : Int) ≤ c := by omega
      have i6 : (0 : Int) ≤ P := by omega
      have Ha := Lib.hid ha; clear ha
      have Hc := Lib.hid hc; clear hc
      have Hm1 := Lib.hid hm1; clear hm1 hY
      by_cases c1 : 4294967296 ≤ a
      · obtain ⟨s1, s2, s3⟩ := Hst.out (.inl c1)
        obtain ⟨a', rfl⟩ : ∃ a', a = a' + 1 := ⟨a - 1, by omega⟩
        rw [Nat.add_sub_cancel] at s2 s3
        have S2 := Lib.hid s2; clear s2
        have k1 : (4294967296 : Int) ≤ (a' : Int) + 1 := by omega
        have C1 := Lib.hid c1; clear c1
        have S3 := Lib.hid s3; clear s3 s1
        by_cases c3 : 4294967296 ≤ c + d
        · have k3 : (4294967296 : Int) ≤ (c : Int) + (d : Int) := by omega
          have C3 := Lib.hid c3; clear c3
          go_wp2_with fail
          go_meet
          exact ⟨a', c + d, by go_num, by go_num, dg_end u y _ _ (by have := HY.out; omega) S2.out (dg_far y _ _ S3.out C3.out), rfl⟩
        · have k3 : decide ((4294967296 : Int) ≤ (c : Int) + (d : Int)) = false := by simp; omega
          have C3 := Lib.hid c3; clear c3
          go_wp2_with fail
          go_round
          case rel => exact ⟨a', c + d, by go_num, by go_num, S2.out, by have := C3.out; omega⟩
          case measure => simp [intOf]
      · have k1 : decide ((4294967296 : Int) ≤ (a : Int)) = false := by simp; omega
        by_cases c2 : 4294967296 * c < P
        · obtain ⟨s1, s2, s3⟩ := Hst.out (.inr c2)
          obtain ⟨a', ha'⟩ : ∃ a', a' = a - 1 := ⟨_, rfl⟩
          rw [← ha'] at s2 s3
          have k0 : (a : Int) - 1 = (a' : Int) := by omega
          have k4 : (1 : Int) ≤ (a : Int) := by omega
          have Ha' := Lib.hid ha'; clear ha'
          have S2 := Lib.hid s2; clear s2
          have k2 : decide ((4294967296 : Int) * (c : Int) < (P : Int)) = true := by simp; omega
          have C1 := Lib.hid c1; clear c1
          have C2 := Lib.hid c2; clear c2
          have S3 := Lib.hid s3; clear s3 s1
          by_cases c3 : 4294967296 ≤ c + d
          · have k3 : (4294967296 : Int) ≤ (c : Int) + (d : Int) := by omega
            have C3 := Lib.hid c3; clear c3
            go_wp2_with fail
            go_meet
            exact ⟨a', c + d, by go_num, by go_num, dg_end u y _ _ (by have := HY.out; omega) S2.out (dg_far y _ _ S3.out C3.out), rfl⟩
          · have k3 : decide ((4294967296 : Int) ≤ (c : Int) + (d : Int)) = false := by simp; omega
            have C3 := Lib.hid c3; clear c3
            go_wp2_with fail
            go_round
            case rel => exact ⟨a', c + d, by go_num, by go_num, S2.out, by have := C3.out; omega⟩
            case measure => have := Ha'.out; simp [intOf]; omega
        · have k2 : decide ((4294967296 : Int) * (c : Int) < (P : Int)) = false := by simp; omega
          have C1 := Lib.hid c1; clear c1
          have C2 := Lib.hid c2; clear c2
          go_wp2_with fail
          go_meet
          exact ⟨a, c, rfl, rfl, Hen.out (by have := C2.out; omega), rfl⟩
  case rest =>
  obtain ⟨Q1, b1'', rfl, rfl, hQ, rfl⟩ := hcut
  rw [← HQa.out] at hQ
  subst hQ
  clear b1 b2 b3 b4
  obtain ⟨n3, n8, n10, n11, n12, n13, n15⟩ := Hn.out
  obtain ⟨b1', b2', b3', b4', _⟩ := Hsec.out
  obtain ⟨e1, e3⟩ := Hfst.out
  go_upto_block 2 with fail
  go_cut [18, 16] (fun x z wr => ∃ Q1 b1 : Nat, x = .int .u64 Q1 ∧ z = .int .u64 b1 ∧ Q1 = v * 4294967296 / y ∧ wr = wc)
  case first =>
    go_wp2_with fail
    go_loop [18, 16] (fun x z => ∃ a c : Nat, x = .int .u64 a ∧ z = .int .u64 c ∧ DG v y a c ∧ c < 4294967296) (fun x _ => (intOf x).toNat)
    case atStart => exact ⟨_, _, rfl, rfl, G1.out, G2.out⟩
    case round =>
      obtain ⟨a, c, rfl, rfl, hD, hc⟩ := hrel
      have hY := HY.out
      have ha := hD.1
      have hm1 := dg_mul y a ha
      have hst := dg_step v y a c (by omega) HV.out hD
      have hen := dg_end v y a c (by omega) hD
      rw [← Hr.out] at hm1 hst hen
      rw [← Hd.out] at hst
      obtain ⟨P, hP⟩ : ∃ P, P = a * r := ⟨_, rfl⟩
      rw [← hP] at hm1 hst hen
      have p1 : (a : Int) * r = (P : Int) := by rw [hP]; simp
      have HP := Lib.hid hP; clear hP
      have HD := Lib.hid hD; clear hD
      have Hst := Lib.hid hst; clear hst
      have Hen := Lib.hid hen; clear hen
      have i1 : (a : Int) ≤ 4294967297 := by omega
      have i2 : (c : Int) ≤ 4294967295 := by omega
      have i3 : (P : Int) ≤ 18446744073709551615 := by omega
      have i4 : (0 : Int) ≤ a := by omega
      have i5 : (0 : Int) ≤ c := by omega
      have i6 : (0 : Int) ≤ P := by omega
      have Ha := Lib.hid ha; clear ha
      have Hc := Lib.hid hc; clear hc
      have Hm1 := Lib.hid hm1; clear hm1 hY
      by_cases c1 : 4294967296 ≤ a
      · obtain ⟨s1, s2, s3⟩ := Hst.out (.inl c1)
        obtain ⟨a', rfl⟩ : ∃ a', a = a' + 1 := ⟨a - 1, by omega⟩
        rw [Nat.add_sub_cancel] at s2 s3
        have S2 := Lib.hid s2; clear s2
        have k1 : (4294967296 : Int) ≤ (a' : Int) + 1 := by omega
        have C1 := Lib.hid c1; clear c1
        have S3 := Lib.hid s3; clear s3 s1
        by_cases c3 : 4294967296 ≤ c + d
        · have k3 : (4294967296 : Int) ≤ (c : Int) + (d : Int) := by omega
          have C3 := Lib.hid c3; clear c3
          go_wp2_with fail
          go_meet
          exact ⟨a', c + d, by go_num, by go_num, dg_end v y _ _ (by have := HY.out; omega) S2.out (dg_far y _ _ S3.out C3.out), rfl⟩
        · have k3 : decide ((4294967296 : Int) ≤ (c : Int) + (d : Int)) = false := by simp; omega
          have C3 := Lib.hid c3; clear c3
          go_wp2_with fail
          go_round
          case rel => exact ⟨a', c + d, by go_num, by go_num, S2.out, by have := C3.out; omega⟩
          case measure => simp [intOf]
      · have k1 : decide ((4294967296 : Int) ≤ (a : Int)) = false := by simp; omega
        by_cases c2 : 4294967296 * c < P
        · obtain ⟨s1, s2, s3⟩ := Hst.out (.inr c2)
          obtain ⟨a', ha'⟩ : ∃ a', a' = a - 1 := ⟨_, rfl⟩
          rw [← ha'] at s2 s3
          have k0 : (a : Int) - 1 = (a' : Int) := by omega
          have k4 : (1 : Int) ≤ (a : Int) := by omega
          have Ha' := Lib.hid ha'; clear ha'
          have S2 := Lib.hid s2; clear s2
          have k2 : decide ((4294967296 : Int) * (c : Int) < (P : Int)) = true := by simp; omega
          have C1 := Lib.hid c1; clear c1
          have C2 := Lib.hid c2; clear c2
          have S3 := Lib.hid s3; clear s3 s1
          by_cases c3 : 4294967296 ≤ c + d
          · have k3 : (4294967296 : Int) ≤ (c : Int) + (d : Int) := by omega
            have C3 := Lib.hid c3; clear c3
            go_wp2_with fail
            go_meet
            exact ⟨a', c + d, by go_num, by go_num, dg_end v y _ _ (by have := HY.out; omega) S2.out (dg_far y _ _ S3.out C3.out), rfl⟩
          · have k3 : decide ((4294967296 : Int) ≤ (c : Int) + (d : Int)) = false := by simp; omega
            have C3 := Lib.hid c3; clear c3
            go_wp2_with fail
            go_round
            case rel => exact ⟨a', c + d, by go_num, by go_num, S2.out, by have := C3.out; omega⟩
            case measure => have := Ha'.out; simp [intOf]; omega
        · have k2 : decide ((4294967296 : Int) * (c : Int) < (P : Int)) = false := by simp; omega
          have C1 := Lib.hid c1; clear c1
          have C2 := Lib.hid c2; clear c2
          go_wp2_with fail
          go_meet
          exact ⟨a, c, rfl, rfl, Hen.out (by have := C2.out; omega), rfl⟩
  case rest =>
  obtain ⟨Q1, b1'', rfl, rfl, hQ, rfl⟩ := hcut
  rw [← HQc.out] at hQ
  subst hQ
  clear b1' b2' b3' b4' e1 e3
  obtain ⟨_, _, _, _, e2, e4⟩ := Hsec.out
  go_wp2_with fail
  go_ret2
  exact ⟨by rw [Hfin.out.1, Hfin.out.2]; go_num, rfl⟩
end Go.Proofs.YtfdenbgmogojeaaDoor

namespace Go.Proofs.YtfdenbgmogojeaaDoor
open Go.RowKit Go.Lib
theorem quiet_add_sameq {P : Program} {f : FuncId} {args : Array Value} {w : World} {a n : Nat} {v : Value}
    (h : Calls P f args (w.drewN (a + n)) fun e w' => e = .returned v ∧ w' = w.drewN (a + n)) :
    Calls P f args (w.drewN (a + n)) fun e w'' => e = .returned v ∧ ∃ m, w'' = w.drewN (a + m) :=
  h.mono fun _ _ ⟨he, hm⟩ => ⟨he, n, hm⟩

theorem res105 (tm : Array Value) (R : Nat) (a b c d e : Value) (w : World) (hp : tm[4]?.getD undef = .pointer (some ⟨R, 0, none⟩)) (h : Has w R [a, b, c, d, e]) :
    (results Tryd.f105 tm).run Tryd.prog w = .ok (.agg #[a, b, c, d, e]) w := by
  obtain ⟨h0, h1, h2, h3, h4⟩ := h.c5
  simp [results, Tryd.results105, go_sem, hp, h0, h1, h2, h3, h4]
theorem Has.drewNq {w : World} {n : Nat} {xs : List Value} (h : Has w n xs) (k : Nat) : Has (w.drewN k) n xs := h
theorem below_drewNq {B : Nat} {a w : World} (h : Below B a w) (n : Nat) : Below B a (w.drewN n) := ⟨h.os, h.tape, h.output, h.size, h.block⟩

/-- The quotient of two numbers, to 63 or 64 digits. -/
def quU (X : Nat) : Nat := X * 2 ^ (63 - bl X)
def quV (Y : Nat) : Nat := Y * 2 ^ (64 - bl Y)
def quN (X Y : Nat) : Nat := quU X * 18446744073709551616 / quV Y
def quR (X Y : Nat) : Nat := quU X * 18446744073709551616 % quV Y
def quE (X : Nat) (ex : Int) (Y : Nat) (ey : Int) : Int := ex - ((64 - bl X : Nat) : Int) - (ey - ((64 - bl Y : Nat) : Int)) - 63
theorem bl_ge (n : Nat) (h : n ≠ 0) : 2 ^ (bl n - 1) ≤ n := by
  unfold bl; rw [if_neg h, Nat.add_sub_cancel]; exact Nat.log2_self_le h
theorem qu_b (X Y : Nat) (x0 : 0 < X) (x1 : X < 18014398509481984) (y0 : 0 < Y) (y1 : Y < 18014398509481984) :
    X * 2 ^ (64 - bl X) < 18446744073709551616 ∧ X * 2 ^ (64 - bl X) / 2 = quU X ∧ 9223372036854775808 ≤ quV Y ∧ quV Y < 18446744073709551616 ∧ 0 < quU X ∧ quU X < 9223372036854775808 := by
  have hx : bl X ≤ 54 := bl_mono_le _ 54 (by omega)
  have hy : bl Y ≤ 54 := bl_mono_le _ 54 (by omega)
  have hy0 := bl_pos Y (by omega)
  have p1 : X * 2 ^ (64 - bl X) < 2 ^ bl X * 2 ^ (64 - bl X) := Nat.mul_lt_mul_of_pos_right (bl_lt X) (Nat.two_pow_pos _)
  rw [← Nat.pow_add, show bl X + (64 - bl X) = 64 by omega] at p1
  have p2 : Y * 2 ^ (64 - bl Y) < 2 ^ bl Y * 2 ^ (64 - bl Y) := Nat.mul_lt_mul_of_pos_right (bl_lt Y) (Nat.two_pow_pos _)
  rw [← Nat.pow_add, show bl Y + (64 - bl Y) = 64 by omega] at p2
  have p3 : 2 ^ (bl Y - 1) * 2 ^ (64 - bl Y) ≤ Y * 2 ^ (64 - bl Y) := Nat.mul_le_mul_right _ (bl_ge Y (by omega))
  rw [← Nat.pow_add, show bl Y - 1 + (64 - bl Y) = 63 by omega] at p3
  have p4 : X * 2 ^ (64 - bl X) = 2 * quU X := by
    unfold quU; rw [show 64 - bl X = (63 - bl X) + 1 by omega, Nat.pow_succ, ← Nat.mul_assoc, Nat.mul_comm]
  have p5 : 0 < quU X := Nat.mul_pos x0 (Nat.two_pow_pos _)
  unfold quV
  omega

set_option maxHeartbeats 4000000 in
theorem quotient_c (cx sx ex cy sy ey : Int) (X Y : Nat) (x0 : 0 < X) (x1 : (X : Int) ≤ 18014398509481983) (y0 : 0 < Y) (y1 : (Y : Int) ≤ 18014398509481983) (ex0 : -1100 ≤ ex) (ex1 : ex ≤ 1000) (ey0 : -1100 ≤ ey) (ey1 : ey ≤ 1000) (w : World) :
    Calls Tryd.prog 105 #[num cx sx X ex, num cy sy Y ey] w fun e w' => e = .returned (exa 0 0 (quN X Y : Int) (quE X ex Y ey) (decide (quR X Y ≠ 0))) ∧ Below w.heap.size w w' := by
  have hx : bl X ≤ 54 := bl_mono_le _ 54 (by omega)
  have hy : bl Y ≤ 54 := bl_mono_le _ 54 (by omega)
  obtain ⟨q1, q2, q3, q4, q5, q6⟩ := qu_b X Y x0 (by omega) y0 (by omega)
  have hQ : quN X Y = quU X * 18446744073709551616 / quV Y := rfl
  have hR : quR X Y = quU X * 18446744073709551616 % quV Y := rfl
  have hE : ex - ((64 - bl X : Nat) : Int) - (ey - ((64 - bl Y : Nat) : Int)) - 63 = quE X ex Y ey := rfl
  obtain ⟨U2, hU2⟩ : ∃ U2, U2 = X * 2 ^ (64 - bl X) := ⟨_, rfl⟩
  rw [← hU2] at q1 q2
  have hU2i : (X : Int) * 2 ^ (64 - bl X) = (U2 : Int) := by rw [hU2]; simp
  have hVi : (Y : Int) * 2 ^ (64 - bl Y) = (quV Y : Int) := by unfold quV; simp
  generalize quU X = U at *
  generalize quV Y = V at *
  generalize quN X Y = Q at *
  generalize quR X Y = R at *
  generalize quE X ex Y ey = EE at *
  have hDv : ∀ w', Calls Tryd.prog 119 #[.int .u64 (U : Int), .int .u64 0, .int .u64 (V : Int)] w' fun e w'' => e = .returned (.tuple #[.int .u64 (Q : Int), .int .u64 (R : Int)]) ∧ w'' = w' := fun w' => by
    refine (Div64_c U V q3 q4 (by omega) q5 w').mono ?_
    rintro e w'' ⟨rfl, rfl⟩
    exact ⟨by rw [hQ, hR], rfl⟩
  have HDv := Lib.hid hDv; clear hDv
  obtain ⟨a, ha⟩ : ∃ a : Nat, a = 64 - bl X := ⟨_, rfl⟩
  obtain ⟨b, hb⟩ : ∃ b : Nat, b = 64 - bl Y := ⟨_, rfl⟩
  have l1 : ∀ w', Calls Tryd.prog 106 #[.int .u64 (X : Int)] w' fun e w'' => e = .returned (.int .i64 (a : Int)) ∧ w'' = w' := fun w' => by
    refine (LeadingZeros64_c (X : Int) (by omega) (by omega) w').mono ?_
    rintro e w'' ⟨rfl, rfl⟩
    exact ⟨by rw [Int.toNat_natCast, show (64 : Int) - (bl X : Int) = (a : Int) by omega], rfl⟩
  have l2 : ∀ w', Calls Tryd.prog 106 #[.int .u64 (Y : Int)] w' fun e w'' => e = .returned (.int .i64 (b : Int)) ∧ w'' = w' := fun w' => by
    refine (LeadingZeros64_c (Y : Int) (by omega) (by omega) w').mono ?_
    rintro e w'' ⟨rfl, rfl⟩
    exact ⟨by rw [Int.toNat_natCast, show (64 : Int) - (bl Y : Int) = (b : Int) by omega], rfl⟩
  have L1 := Lib.hid l1; clear l1
  have L2 := Lib.hid l2; clear l2
  have a1 : (a : Int) ≤ 64 := by omega
  have b1 : (b : Int) ≤ 64 := by omega
  have a0 : (0 : Int) ≤ a := by omega
  have b0 : (0 : Int) ≤ b := by omega
  rw [← ha] at hE hU2i
  rw [← hb] at hE hVi
  have e1 : IntKind.u64.wrap ((X : Int) * 2 ^ a) = (U2 : Int) := by rw [hU2i, IntKind.wrap_u64]; omega
  have e2 : IntKind.u64.wrap ((Y : Int) * 2 ^ b) = (V : Int) := by rw [hVi, IntKind.wrap_u64]; omega
  have e3 : (U2 : Int) / 2 = (U : Int) := by omega
  have HE := Lib.hid hE; clear hE
  clear ha hb hx hy q1 q2 q3 q4 q5 q6 hQ hR hU2 hU2i hVi x0 y0
  obtain ⟨mo, hmo⟩ : ∃ mo : Bool, mo = decide (R ≠ 0) := ⟨_, rfl⟩
  have hmo2 : ((R : Int) != 0) = mo := by rw [hmo, Bool.eq_iff_iff]; simp
  have Hmo := Lib.hid hmo; clear hmo
  go_enter Tryd.func105, Tryd.ntmps105
  go_wp2_with fail
  go_quiet ((first | (go_at_call_of 106 (Value.int IntKind.u64 (X : Int)); exact Calls.quiet_of_same (L1.out _)) | (go_at_call_of 106 (Value.int IntKind.u64 (Y : Int)); exact Calls.quiet_of_same (L2.out _))))
  go_wp2_with fail
  go_quiet ((go_at_call 119; exact quiet_add_sameq (HDv.out _)))
  go_wp2_with fail
  have hR := Has.new ((w.alloc (.cells (List.toArray [.int .i64 cx, .int .i64 sx, .int .u64 (X : Int), .int .i64 ex]) 70)).alloc (.cells (List.toArray [.int .i64 cy, .int .i64 sy, .int .u64 (Y : Int), .int .i64 ey]) 70)) [.int .i64 0, .int .u64 0, .int .u64 0, .int .i64 0, .bool false] 77
  rw [World.size_alloc, World.size_alloc] at hR
  have hB : Below w.heap.size w (((w.alloc (.cells (List.toArray [.int .i64 cx, .int .i64 sx, .int .u64 (X : Int), .int .i64 ex]) 70)).alloc (.cells (List.toArray [.int .i64 cy, .int .i64 sy, .int .u64 (Y : Int), .int .i64 ey]) 70)).alloc (.cells (List.toArray [.int .i64 0, .int .u64 0, .int .u64 0, .int .i64 0, .bool false]) 77)) := by go_grown
  refine bodyPost_ret (res105 _ (w.heap.size + 1 + 1) _ _ _ _ _ _ rfl ((((((hR.drewNq _).set).set).set).set).set)) rfl ⟨ret_exa rfl rfl rfl HE.out Hmo.out, (((((below_drewNq hB _).st (by omega)).st (by omega)).st (by omega)).st (by omega)).st (by omega)⟩
end Go.Proofs.YtfdenbgmogojeaaDoor

namespace Go.Proofs.YtfdenbgmogojeaaDoor
open Go.RowKit Go.Lib

/-- The quotient of two floats that are taken apart. -/
def numDiv (W D mode cx sx mx ex cy sy my ey : Int) : Int × Int :=
  if cx = cy ∧ (cx = 0 ∨ cx = 3) then (jn W 0 (qz D), 1)
  else if cx = 3 then (jn W (sgX sx sy) (endl D), 0)
  else if cx = 0 ∨ cy = 3 then (jn W (sgX sx sy) 0, 0)
  else if cy = 0 then (jn W (sgX sx sy) (endl D), 2)
  else roundF W D mode (sgX sx sy) (quN mx.toNat my.toNat) (quE mx.toNat ex my.toNat ey) (decide (quR mx.toNat my.toNat ≠ 0))

set_option maxHeartbeats 8000000 in
theorem div_sp (W D E mode cx sx mx ex cy sy my ey : Int) (h : KL W D E) (hsx : Sgn sx) (hsy : Sgn sy) (hcx : cx = 0 ∨ cx = 1 ∨ cx = 2 ∨ cx = 3) (hcy : cy = 0 ∨ cy = 1 ∨ cy = 2 ∨ cy = 3) (hsp : cx = 0 ∨ cx = 3 ∨ cy = 0 ∨ cy = 3) (r1 r2 : Int)
    (hr : (r1, r2) = if cx = cy ∧ (cx = 0 ∨ cx = 3) then (jn W 0 (qz D), 1) else if cx = 3 then (jn W (sgX sx sy) (endl D), 0) else if cx = 0 ∨ cy = 3 then (jn W (sgX sx sy) 0, 0) else (jn W (sgX sx sy) (endl D), 2)) (w : World) :
    Calls Tryd.prog 65 #[lay W D E, .int .i64 mode, num cx sx mx ex, num cy sy my ey] w fun e w' => e = .returned (.tuple #[.int .i64 r1, .int .i64 r2]) ∧ Below w.heap.size w w' := by
  have hxo := sgX_x sx sy hsx hsy
  have hS := sgX_s sx sy
  generalize sgX sx sy = sg at *
  have Hs := Lib.hid hS; clear hS
  have hh := Lib.hid (show (0 : Int) ≤ 0 ∧ (0 : Int) < Go.Proofs.YtfdenbgmogojeaaDoor.hf W from ⟨by omega, by have := (one_b h).2; omega⟩)
  clear hsx hsy
  rcases hcx with rfl | rfl | rfl | rfl <;> rcases hcy with rfl | rfl | rfl | rfl <;> first | (exact absurd hsp (by decide)) | skip
  all_goals
    clear hsp
    simp at hr
    obtain ⟨rfl, rfl⟩ := hr
    go_enter Tryd.func65, Tryd.ntmps65
    go_wp2_with (first | (go_at_call 89; refine (quiet_c W D E h _).mono ?_; rintro e w1 ⟨rfl, hb⟩) | (go_at_call 90; refine (infinite_c W D E _ h Hs.out _).mono ?_; rintro e w1 ⟨rfl, hb⟩) | (go_at_call 80; refine (join_c W D E _ 0 h Hs.out hh.out.1 hh.out.2 _).mono ?_; rintro e w1 ⟨rfl, hb⟩))
    go_ret2
    exact ⟨rfl, bt (by go_grown) hb⟩

theorem qu_len (X Y : Nat) (x0 : 0 < X) (x1 : X < 18014398509481984) (y0 : 0 < Y) (y1 : Y < 18014398509481984) : quN X Y < 18446744073709551616 ∧ 4611686018427387904 ≤ quN X Y := by
  obtain ⟨_, _, q3, q4, q5, q6⟩ := qu_b X Y x0 x1 y0 y1
  have hx := bl_pos X (by omega)
  have hx54 : bl X ≤ 54 := bl_mono_le _ 54 (by omega)
  have p3 : 2 ^ (bl X - 1) * 2 ^ (63 - bl X) ≤ quU X := Nat.mul_le_mul_right _ (bl_ge X (by omega))
  rw [← Nat.pow_add, show bl X - 1 + (63 - bl X) = 62 by omega] at p3
  unfold quN
  constructor
  · rw [Nat.div_lt_iff_lt_mul (by omega)]; omega
  · rw [Nat.le_div_iff_mul_le (by omega)]; omega

set_option maxHeartbeats 8000000 in
theorem div_fin (W D E mode cx sx ex cy sy ey : Int) (X Y : Nat) (h : KL W D E) (hm : Mode mode) (hsx : Sgn sx) (hsy : Sgn sy) (h1 : (cx == 0) = false) (h2 : (cx == 3) = false) (h3 : (cy == 0) = false) (h4 : (cy == 3) = false)
    (x0 : 0 < X) (x1 : (X : Int) ≤ 18014398509481983) (y0 : 0 < Y) (y1 : (Y : Int) ≤ 18014398509481983) (ex0 : -1100 ≤ ex) (ex1 : ex ≤ 1000) (ey0 : -1100 ≤ ey) (ey1 : ey ≤ 1000) (w : World) :
    Calls Tryd.prog 65 #[lay W D E, .int .i64 mode, num cx sx X ex, num cy sy Y ey] w fun e w' => e = .returned (.tuple #[.int .i64 (roundF W D mode (sgX sx sy) (quN X Y) (quE X ex Y ey) (decide (quR X Y ≠ 0))).1, .int .i64 (roundF W D mode (sgX sx sy) (quN X Y) (quE X ex Y ey) (decide (quR X Y ≠ 0))).2]) ∧ Below w.heap.size w w' := by
  have hxo := sgX_x sx sy hsx hsy
  have hS := sgX_s sx sy
  generalize sgX sx sy = sg at *
  have Hs := Lib.hid hS; clear hS
  clear hsx hsy
  obtain ⟨q1, q2⟩ := qu_len X Y x0 (by omega) y0 (by omega)
  have hE : -2400 ≤ quE X ex Y ey ∧ quE X ex Y ey ≤ 2400 := by
    have a := bl_mono_le X 54 (by omega)
    have b := bl_mono_le Y 54 (by omega)
    unfold quE; omega
  have hQ := Lib.hid (fun w' => quotient_c cx sx ex cy sy ey X Y x0 x1 y0 y1 ex0 ex1 ey0 ey1 w')
  generalize quN X Y = N at *
  generalize quE X ex Y ey = EE at *
  generalize decide (quR X Y ≠ 0) = mo at *
  have hb := bl_mono_le N 64 (by omega)
  have hh : 11 ≤ D ∧ D ≤ 53 ∧ -1074 ≤ low D := by rcases h with ⟨rfl, rfl, rfl⟩ | ⟨rfl, rfl, rfl⟩ | ⟨rfl, rfl, rfl⟩ <;> decide
  have hnn : nn 0 (N : Int) = N := by unfold nn; omega
  have hR := Lib.hid (round_c W D E mode sg 0 (N : Int) EE mo h hm Hs.out ⟨by omega, by omega⟩ ⟨by omega, by omega⟩ (by rw [hnn]; omega) (by omega) (by rw [hnn]; omega))
  rw [hnn] at hR
  clear hb hh hnn q1 q2 x0 y0 hE
  cases hcc : (cx == cy)
  all_goals
    go_enter Tryd.func65, Tryd.ntmps65
    go_wp2_with fail
    refine (hQ.out _).mono ?_
    rintro e w1 ⟨rfl, hb⟩
    obtain ⟨hL, hX, hY, hB, hlt⟩ := box3 (xs := [_, _, _]) (ys := [_, _, _, _]) (zs := [_, _, _]) hb
    clear hb
    obtain ⟨l0, l1, l2⟩ := hL.c3
    have hlt0 : w.heap.size < w1.heap.size := by omega
    have hlt1 : w.heap.size + 1 < w1.heap.size := by omega
    have hB1 := hB.alloc hB.size (.cells #[.int .i64 sg, .int .u64 0, .int .u64 (N : Int), .int .i64 EE, .bool mo] 77)
    go_wp2_with fail
    refine (hR.out _).mono ?_
    rintro e w2 ⟨rfl, hb⟩
    go_wp2
    go_ret2
    exact ⟨rfl, bt hB1 hb⟩
end Go.Proofs.YtfdenbgmogojeaaDoor

namespace Go.Proofs.YtfdenbgmogojeaaDoor
open Go.RowKit

def opMul (W D mode a b : Int) : Int × Int := numMul W D mode (cls D (siz W a)) (sgn W a) (mant D (siz W a)) (expo D (siz W a)) (cls D (siz W b)) (sgn W b) (mant D (siz W b)) (expo D (siz W b))
def mulF (W D mode a b : Int) : Int × Int := if cls D (siz W a) = 4 ∨ cls D (siz W b) = 4 then (jn W 0 (qz D), 0) else opMul W D mode a b
def opDiv (W D mode a b : Int) : Int × Int := numDiv W D mode (cls D (siz W a)) (sgn W a) (mant D (siz W a)) (expo D (siz W a)) (cls D (siz W b)) (sgn W b) (mant D (siz W b)) (expo D (siz W b))
def divF (W D mode a b : Int) : Int × Int := if cls D (siz W a) = 4 ∨ cls D (siz W b) = 4 then (jn W 0 (qz D), 0) else opDiv W D mode a b

/-- What is known of a finite float above 0. -/
theorem fin_nums (W D E a : Int) (h : KL W D E) (c : cls D (siz W a) = 1 ∨ cls D (siz W a) = 2) :
    M54 (mant D (siz W a)) ∧ 0 < mant D (siz W a) ∧ -1100 ≤ expo D (siz W a) ∧ expo D (siz W a) ≤ 1000 ∧ ((mant D (siz W a)).toNat : Int) = mant D (siz W a) ∧ 0 < (mant D (siz W a)).toNat ∧ ((mant D (siz W a)).toNat : Int) ≤ 18014398509481983 := by
  obtain ⟨a0, a1⟩ := siz_b W D E a h
  obtain ⟨m0, m1, _⟩ := mant_b W D E _ h a0 a1
  obtain ⟨e1, e2, _⟩ := expo_b W D E _ h a0 (by omega)
  have hbd := hid_b W D E h
  have mp := mant_pos W D E a h c
  refine ⟨⟨m0, by omega⟩, mp, by omega, e2, by omega, by omega, by omega⟩

theorem opMul_c (W D E mode a b : Int) (h : KL W D E) (hm : Mode mode) (_ha : okB W a = true) (_hb : okB W b = true) (ca : ¬ cls D (siz W a) = 4) (cb : ¬ cls D (siz W b) = 4) (w : World) :
    Calls Tryd.prog 63 #[lay W D E, .int .i64 mode, num (cls D (siz W a)) (sgn W a) (mant D (siz W a)) (expo D (siz W a)), num (cls D (siz W b)) (sgn W b) (mant D (siz W b)) (expo D (siz W b))] w fun e w' => e = .returned (.tuple #[.int .i64 (mulF W D mode a b).1, .int .i64 (mulF W D mode a b).2]) ∧ Below w.heap.size w w' := by
  have e : mulF W D mode a b = opMul W D mode a b := by unfold mulF; rw [if_neg (by rintro (q | q); exact ca q; exact cb q)]
  have na := cls_nn D (siz W a)
  have nb := cls_nn D (siz W b)
  rw [e]
  by_cases sp : cls D (siz W a) = 0 ∨ cls D (siz W a) = 3 ∨ cls D (siz W b) = 0 ∨ cls D (siz W b) = 3
  · refine mul_sp W D E mode _ _ _ _ _ _ _ _ h (sgn_s W a) (sgn_s W b) _ _ _ _ rfl rfl rfl rfl ?_ ?_ ?_ _ _ ?_ w
    · simp only [Bool.or_eq_true, beq_iff_eq]; omega
    · rw [Bool.eq_false_iff]; simp only [ne_eq, Bool.and_eq_true, beq_iff_eq]; omega
    · rw [Bool.eq_false_iff]; simp only [ne_eq, Bool.and_eq_true, beq_iff_eq]; omega
    · unfold opMul numMul
      simp only [Bool.and_eq_true, Bool.or_eq_true, beq_iff_eq]
      by_cases p : (cls D (siz W a) = 0 ∨ cls D (siz W b) = 0) ∧ (cls D (siz W a) = 3 ∨ cls D (siz W b) = 3)
      · simp only [if_pos p]
      · simp only [if_neg p]
        by_cases q : cls D (siz W a) = 3 ∨ cls D (siz W b) = 3
        · simp only [if_pos q]
        · have r : cls D (siz W a) = 0 ∨ cls D (siz W b) = 0 := by omega
          simp only [if_neg q, if_pos r]
  · obtain ⟨m1, p1, e1, f1, _⟩ := fin_nums W D E a h (by omega)
    obtain ⟨m2, p2, e2, f2, _⟩ := fin_nums W D E b h (by omega)
    have hN : opMul W D mode a b = roundF W D mode (sgX (sgn W a) (sgn W b)) ((mant D (siz W a)).toNat * (mant D (siz W b)).toNat) (expo D (siz W a) + expo D (siz W b)) false := by
      unfold opMul numMul; rw [if_neg (by omega), if_neg (by omega), if_neg (by omega)]
    rw [hN]
    exact mul_fin W D E mode _ _ _ _ _ _ _ _ h hm (sgn_s W a) (sgn_s W b) (by simp; omega) (by simp; omega) (by simp; omega) (by simp; omega) m1 m2 p1 p2 e1 f1 e2 f2 w

theorem opDiv_c (W D E mode a b : Int) (h : KL W D E) (hm : Mode mode) (_ha : okB W a = true) (_hb : okB W b = true) (ca : ¬ cls D (siz W a) = 4) (cb : ¬ cls D (siz W b) = 4) (w : World) :
    Calls Tryd.prog 65 #[lay W D E, .int .i64 mode, num (cls D (siz W a)) (sgn W a) (mant D (siz W a)) (expo D (siz W a)), num (cls D (siz W b)) (sgn W b) (mant D (siz W b)) (expo D (siz W b))] w fun e w' => e = .returned (.tuple #[.int .i64 (divF W D mode a b).1, .int .i64 (divF W D mode a b).2]) ∧ Below w.heap.size w w' := by
  have e : divF W D mode a b = opDiv W D mode a b := by unfold divF; rw [if_neg (by rintro (q | q); exact ca q; exact cb q)]
  have na := cls_nn D (siz W a)
  have nb := cls_nn D (siz W b)
  rw [e]
  by_cases sp : cls D (siz W a) = 0 ∨ cls D (siz W a) = 3 ∨ cls D (siz W b) = 0 ∨ cls D (siz W b) = 3
  · refine div_sp W D E mode _ _ _ _ _ _ _ _ h (sgn_s W a) (sgn_s W b) (by omega) (by omega) sp _ _ ?_ w
    unfold opDiv numDiv
    by_cases p : cls D (siz W a) = cls D (siz W b) ∧ (cls D (siz W a) = 0 ∨ cls D (siz W a) = 3)
    · simp only [if_pos p]
    · simp only [if_neg p]
      by_cases q : cls D (siz W a) = 3
      · simp only [if_pos q]
      · simp only [if_neg q]
        by_cases r : cls D (siz W a) = 0 ∨ cls D (siz W b) = 3
        · simp only [if_pos r]
        · have s : cls D (siz W b) = 0 := by omega
          simp only [if_neg r, if_pos s]
  · obtain ⟨m1, p1, e1, f1, t1, u1, v1⟩ := fin_nums W D E a h (by omega)
    obtain ⟨m2, p2, e2, f2, t2, u2, v2⟩ := fin_nums W D E b h (by omega)
    have hN : opDiv W D mode a b = roundF W D mode (sgX (sgn W a) (sgn W b)) (quN (mant D (siz W a)).toNat (mant D (siz W b)).toNat) (quE (mant D (siz W a)).toNat (expo D (siz W a)) (mant D (siz W b)).toNat (expo D (siz W b))) (decide (quR (mant D (siz W a)).toNat (mant D (siz W b)).toNat ≠ 0)) := by
      unfold opDiv numDiv; rw [if_neg (by omega), if_neg (by omega), if_neg (by omega), if_neg (by omega)]
    rw [hN]
    have q := div_fin W D E mode (cls D (siz W a)) (sgn W a) (expo D (siz W a)) (cls D (siz W b)) (sgn W b) (expo D (siz W b)) _ _ h hm (sgn_s W a) (sgn_s W b) (by simp; omega) (by simp; omega) (by simp; omega) (by simp; omega) u1 v1 u2 v2 e1 f1 e2 f2 w
    rw [t1, t2] at q
    exact q

set_option maxRecDepth 100000 in
set_option maxHeartbeats 4000000 in
theorem two_mul (k W D E mode a b : Int) (hk : KK k W D E) (hm : Mode mode) (ha : okB W a = true) (hb' : okB W b = true)
    (w : World) :
    Calls Tryd.prog 49 #[.int .i64 k, .int .i64 mode, .int .i64 a, .int .i64 b, .func (.func 63) #[] #[]] w fun e w' => e = .returned (.tuple #[.int .i64 (mulF W D mode a b).1, .int .i64 (mulF W D mode a b).2, .int .i64 0]) ∧ Below w.heap.size w w' := by
  have h := hk.kl
  have Hk := Lib.hid hk; clear hk
  go_enter Tryd.func49, Tryd.ntmps49
  go_wp2_with fail
  refine (layoutOf_c k W D E Hk.out _).mono ?_
  rintro e wa ⟨rfl, hb⟩
  have hP0 := hb.size
  have hB := hb.alloc hb.size (.cells #[.int .i64 W, .int .i64 D, .int .i64 E] 48)
  have hL := Has.new wa [.int .i64 W, .int .i64 D, .int .i64 E] 48
  clear hb
  go_wp2_with fail
  refine (isMode_c mode hm _).mono ?_
  rintro e w1 ⟨rfl, rfl⟩
  go_wp2_with fail
  refine (holds_c W D E a h _).mono ?_
  rintro e w1 ⟨rfl, hb⟩
  have hB := bt hB hb
  have hL := hL.keep hb
  clear hb
  obtain ⟨l0, l1, l2⟩ := hL.c3
  go_wp2_with fail
  refine (holds_c W D E b h _).mono ?_
  rintro e w1 ⟨rfl, hb⟩
  have hB := bt hB hb
  have hL := hL.keep hb
  clear hb
  obtain ⟨l0, l1, l2⟩ := hL.c3
  go_wp2_with fail
  have hsz := hB.size
  have hPl := hL.lt
  have hP : w.heap.size ≤ wa.heap.size := hP0
  go_cut [15, 16] (fun x y wr => ∃ X Y : Nat, x = .pointer (some ⟨X, 0, none⟩) ∧ y = .pointer (some ⟨Y, 0, none⟩) ∧ wa.heap.size < X ∧ wa.heap.size < Y ∧ X ≠ Y ∧ Has wr X [.int .i64 (cls D (siz W a)), .int .i64 (sgn W a), .int .u64 (mant D (siz W a)), .int .i64 (expo D (siz W a))] ∧ Has wr Y [.int .i64 (cls D (siz W b)), .int .i64 (sgn W b), .int .u64 (mant D (siz W b)), .int .i64 (expo D (siz W b))] ∧ Has wr wa.heap.size [.int .i64 W, .int .i64 D, .int .i64 E] ∧ Below w.heap.size w wr)
  case first =>
    go_region_held3 (fun w' => Below w.heap.size w w' ∧ w'.cell? ⟨wa.heap.size, 0, none⟩ = some (.int .i64 W) ∧ w'.cell? ⟨wa.heap.size, 1, none⟩ = some (.int .i64 D) ∧ w'.cell? ⟨wa.heap.size, 2, none⟩ = some (.int .i64 E))
      (exact keepH (by repeat (with_reducible (first | exact hB | refine Below.al ?_ _ | refine Below.drew ?_ | refine Below.st ?_ (by omega)))) (by repeat (with_reducible (first | exact hL | refine Has.alloc ?_ _ | refine Has.drew ?_ | refine Has.far ?_ (by omega)))))
      (first | (go_at_call 72; refine (open_c W D E _ h (by first | exact ha | exact hb') _).mono ?_; rintro e w' ⟨rfl, hb⟩; have hBn : Below w.heap.size w w' := (by first | exact bt hB hb | exact bt hB.drew hb | exact bt (hB.alloc hB.size _) hb | exact bt (hB.alloc hB.size _).drew hb | exact bt ((hB.alloc hB.size _).alloc (hB.alloc hB.size _).size _) hb | exact bt ((hB.alloc hB.size _).alloc (hB.alloc hB.size _).size _).drew hb); have hLn : Has w' wa.heap.size [.int .i64 W, .int .i64 D, .int .i64 E] := (by first | exact hL.keep hb | exact hL.drew.keep hb | exact (hL.alloc _).keep hb | exact (hL.alloc _).drew.keep hb | exact ((hL.alloc _).alloc _).keep hb | exact ((hL.alloc _).alloc _).drew.keep hb); (try have z1 := z1.keep hb); (try have z1 := (z1.alloc _).keep hb); (try have z1 := ((z1.alloc _).alloc _).keep hb); (try have z2 := z2.keep hb); (try have z2 := (z2.alloc _).keep hb); (try have z2 := ((z2.alloc _).alloc _).keep hb); (first | (have zq := nz2 hb; obtain ⟨z3, z4⟩ := zq) | (have zq := nz2d hb; obtain ⟨z1, z2⟩ := zq) | (have z3 := nz1 hb) | (have z1 := nz1d hb) | skip); (try have z1l := z1.lt); (try obtain ⟨z10, z11, z12, z13⟩ := z1.c4); (try obtain ⟨z14, z15, z16, z17⟩ := z1.f4); (try have z2l := z2.lt); (try obtain ⟨z20, z21, z22, z23⟩ := z2.c4); (try obtain ⟨z24, z25, z26, z27⟩ := z2.f4); (try have z3l := z3.lt); (try obtain ⟨z30, z31, z32, z33⟩ := z3.c4); (try obtain ⟨z34, z35, z36, z37⟩ := z3.f4); (try have z4l := z4.lt); (try obtain ⟨z40, z41, z42, z43⟩ := z4.c4); (try obtain ⟨z44, z45, z46, z47⟩ := z4.f4); have hB := hBn; have hL := hLn; have hPl := hL.lt; have hsz := hB.size; obtain ⟨l0, l1, l2⟩ := hL.c3))
    all_goals
      go_wp2_with fail
      go_meet
      refine ⟨_, _, rfl, rfl, ?_, ?_, ?_, ?_, ?_, ?_, ?_⟩
      · omega
      · omega
      · omega
      · first
          | with_reducible exact (Has.new _ [_, _, _, _] _).alloc _
          | with_reducible exact Has.new1 _ _ [_, _, _, _] _
          | with_reducible exact Has.new4 _ _ _ _ _ _ _ _ _ _ [_, _, _, _] _
          | ((repeat (with_reducible (first | assumption | refine Has.set4 (p := .int .i64 0) (q := .int .i64 0) (r := .int .u64 0) (s := .int .i64 0) ?_ | refine Has.alloc ?_ _ | refine Has.far ?_ (by omega)))); done)
      · first
          | with_reducible exact (Has.new _ [_, _, _, _] _).alloc _
          | with_reducible exact Has.new1 _ _ [_, _, _, _] _
          | with_reducible exact Has.new4 _ _ _ _ _ _ _ _ _ _ [_, _, _, _] _
          | ((repeat (with_reducible (first | assumption | refine Has.set4 (p := .int .i64 0) (q := .int .i64 0) (r := .int .u64 0) (s := .int .i64 0) ?_ | refine Has.alloc ?_ _ | refine Has.far ?_ (by omega)))); done)
      · repeat (with_reducible (first | exact hL | refine Has.alloc ?_ _ | refine Has.drew ?_ | refine Has.far ?_ (by omega)))
      · repeat (with_reducible (first | exact hB | refine Below.al ?_ _ | refine Below.drew ?_ | refine Below.st ?_ (by omega)))
  case rest =>
    obtain ⟨X, Y, rfl, rfl, hXP, hYP, hXY, hX, hY, hL, hB⟩ := hcut
    obtain ⟨l0, l1, l2⟩ := hL.c3
    obtain ⟨x0, x1, x2, x3⟩ := hX.c4
    obtain ⟨y0, y1, y2, y3⟩ := hY.c4
    by_cases ca : cls D (siz W a) = 4
    · have ea : (cls D (siz W a) == 4) = true := by simp [ca]
      have hN := Lib.hid (show mulF W D mode a b = (jn W 0 (qz D), 0) by unfold mulF; rw [if_pos (.inl ca)])
      clear ca
      go_wp2_with fail
      refine (quiet_c W D E h _).mono ?_
      rintro e w2 ⟨rfl, hb⟩
      go_wp2
      go_ret3
      exact ⟨by rw [hN.out]; rfl, bt hB hb⟩
    by_cases cb : cls D (siz W b) = 4
    · have ea : (cls D (siz W a) == 4) = false := by simp [ca]
      have eb : (cls D (siz W b) == 4) = true := by simp [cb]
      have hN := Lib.hid (show mulF W D mode a b = (jn W 0 (qz D), 0) by unfold mulF; rw [if_pos (.inr cb)])
      clear ca cb
      go_wp2_with fail
      refine (quiet_c W D E h _).mono ?_
      rintro e w2 ⟨rfl, hb⟩
      go_wp2
      go_ret3
      exact ⟨by rw [hN.out]; rfl, bt hB hb⟩
    have ea : (cls D (siz W a) == 4) = false := by simp [ca]
    have eb : (cls D (siz W b) == 4) = false := by simp [cb]
    have hO := Lib.hid (opMul_c W D E mode a b h hm ha hb' ca cb)
    clear ca cb
    go_wp2_with fail
    refine (hO.out _).mono ?_
    rintro e w2 ⟨rfl, hb⟩
    go_wp2
    go_ret3
    exact ⟨rfl, bt hB hb⟩

set_option maxHeartbeats 1000000 in
theorem Mul_c (k W D E mode a b : Int) (hk : KK k W D E) (hm : Mode mode) (ha : okB W a = true) (hb' : okB W b = true) (w : World) :
    Calls Tryd.prog 20 #[.int .i64 k, .int .i64 mode, .int .i64 a, .int .i64 b] w fun e w' => e = .returned (.tuple #[.int .i64 (mulF W D mode a b).1, .int .i64 (mulF W D mode a b).2, .int .i64 0]) ∧ Below w.heap.size w w' := by
  have H := Lib.hid (two_mul k W D E mode a b hk hm ha hb')
  clear hk hm ha hb'
  go_enter Tryd.func20, Tryd.ntmps20
  go_wp2_with fail
  refine (H.out _).mono ?_
  rintro e w1 ⟨rfl, hb⟩
  go_wp2
  go_ret3
  exact ⟨rfl, hb⟩
set_option maxRecDepth 100000 in
set_option maxHeartbeats 4000000 in
theorem two_div (k W D E mode a b : Int) (hk : KK k W D E) (hm : Mode mode) (ha : okB W a = true) (hb' : okB W b = true)
    (w : World) :
    Calls Tryd.prog 49 #[.int .i64 k, .int .i64 mode, .int .i64 a, .int .i64 b, .func (.func 65) #[] #[]] w fun e w' => e = .returned (.tuple #[.int .i64 (divF W D mode a b).1, .int .i64 (divF W D mode a b).2, .int .i64 0]) ∧ Below w.heap.size w w' := by
  have h := hk.kl
  have Hk := Lib.hid hk; clear hk
  go_enter Tryd.func49, Tryd.ntmps49
  go_wp2_with fail
  refine (layoutOf_c k W D E Hk.out _).mono ?_
  rintro e wa ⟨rfl, hb⟩
  have hP0 := hb.size
  have hB := hb.alloc hb.size (.cells #[.int .i64 W, .int .i64 D, .int .i64 E] 48)
  have hL := Has.new wa [.int .i64 W, .int .i64 D, .int .i64 E] 48
  clear hb
  go_wp2_with fail
  refine (isMode_c mode hm _).mono ?_
  rintro e w1 ⟨rfl, rfl⟩
  go_wp2_with fail
  refine (holds_c W D E a h _).mono ?_
  rintro e w1 ⟨rfl, hb⟩
  have hB := bt hB hb
  have hL := hL.keep hb
  clear hb
  obtain ⟨l0, l1, l2⟩ := hL.c3
  go_wp2_with fail
  refine (holds_c W D E b h _).mono ?_
  rintro e w1 ⟨rfl, hb⟩
  have hB := bt hB hb
  have hL := hL.keep hb
  clear hb
  obtain ⟨l0, l1, l2⟩ := hL.c3
  go_wp2_with fail
  have hsz := hB.size
  have hPl := hL.lt
  have hP : w.heap.size ≤ wa.heap.size := hP0
  go_cut [15, 16] (fun x y wr => ∃ X Y : Nat, x = .pointer (some ⟨X, 0, none⟩) ∧ y = .pointer (some ⟨Y, 0, none⟩) ∧ wa.heap.size < X ∧ wa.heap.size < Y ∧ X ≠ Y ∧ Has wr X [.int .i64 (cls D (siz W a)), .int .i64 (sgn W a), .int .u64 (mant D (siz W a)), .int .i64 (expo D (siz W a))] ∧ Has wr Y [.int .i64 (cls D (siz W b)), .int .i64 (sgn W b), .int .u64 (mant D (siz W b)), .int .i64 (expo D (siz W b))] ∧ Has wr wa.heap.size [.int .i64 W, .int .i64 D, .int .i64 E] ∧ Below w.heap.size w wr)
  case first =>
    go_region_held3 (fun w' => Below w.heap.size w w' ∧ w'.cell? ⟨wa.heap.size, 0, none⟩ = some (.int .i64 W) ∧ w'.cell? ⟨wa.heap.size, 1, none⟩ = some (.int .i64 D) ∧ w'.cell? ⟨wa.heap.size, 2, none⟩ = some (.int .i64 E))
      (exact keepH (by repeat (with_reducible (first | exact hB | refine Below.al ?_ _ | refine Below.drew ?_ | refine Below.st ?_ (by omega)))) (by repeat (with_reducible (first | exact hL | refine Has.alloc ?_ _ | refine Has.drew ?_ | refine Has.far ?_ (by omega)))))
      (first | (go_at_call 72; refine (open_c W D E _ h (by first | exact ha | exact hb') _).mono ?_; rintro e w' ⟨rfl, hb⟩; have hBn : Below w.heap.size w w' := (by first | exact bt hB hb | exact bt hB.drew hb | exact bt (hB.alloc hB.size _) hb | exact bt (hB.alloc hB.size _).drew hb | exact bt ((hB.alloc hB.size _).alloc (hB.alloc hB.size _).size _) hb | exact bt ((hB.alloc hB.size _).alloc (hB.alloc hB.size _).size _).drew hb); have hLn : Has w' wa.heap.size [.int .i64 W, .int .i64 D, .int .i64 E] := (by first | exact hL.keep hb | exact hL.drew.keep hb | exact (hL.alloc _).keep hb | exact (hL.alloc _).drew.keep hb | exact ((hL.alloc _).alloc _).keep hb | exact ((hL.alloc _).alloc _).drew.keep hb); (try have z1 := z1.keep hb); (try have z1 := (z1.alloc _).keep hb); (try have z1 := ((z1.alloc _).alloc _).keep hb); (try have z2 := z2.keep hb); (try have z2 := (z2.alloc _).keep hb); (try have z2 := ((z2.alloc _).alloc _).keep hb); (first | (have zq := nz2 hb; obtain ⟨z3, z4⟩ := zq) | (have zq := nz2d hb; obtain ⟨z1, z2⟩ := zq) | (have z3 := nz1 hb) | (have z1 := nz1d hb) | skip); (try have z1l := z1.lt); (try obtain ⟨z10, z11, z12, z13⟩ := z1.c4); (try obtain ⟨z14, z15, z16, z17⟩ := z1.f4); (try have z2l := z2.lt); (try obtain ⟨z20, z21, z22, z23⟩ := z2.c4); (try obtain ⟨z24, z25, z26, z27⟩ := z2.f4); (try have z3l := z3.lt); (try obtain ⟨z30, z31, z32, z33⟩ := z3.c4); (try obtain ⟨z34, z35, z36, z37⟩ := z3.f4); (try have z4l := z4.lt); (try obtain ⟨z40, z41, z42, z43⟩ := z4.c4); (try obtain ⟨z44, z45, z46, z47⟩ := z4.f4); have hB := hBn; have hL := hLn; have hPl := hL.lt; have hsz := hB.size; obtain ⟨l0, l1, l2⟩ := hL.c3))
    all_goals
      go_wp2_with fail
      go_meet
      refine ⟨_, _, rfl, rfl, ?_, ?_, ?_, ?_, ?_, ?_, ?_⟩
      · omega
      · omega
      · omega
      · first
          | with_reducible exact (Has.new _ [_, _, _, _] _).alloc _
          | with_reducible exact Has.new1 _ _ [_, _, _, _] _
          | with_reducible exact Has.new4 _ _ _ _ _ _ _ _ _ _ [_, _, _, _] _
          | ((repeat (with_reducible (first | assumption | refine Has.set4 (p := .int .i64 0) (q := .int .i64 0) (r := .int .u64 0) (s := .int .i64 0) ?_ | refine Has.alloc ?_ _ | refine Has.far ?_ (by omega)))); done)
      · first
          | with_reducible exact (Has.new _ [_, _, _, _] _).alloc _
          | with_reducible exact Has.new1 _ _ [_, _, _, _] _
          | with_reducible exact Has.new4 _ _ _ _ _ _ _ _ _ _ [_, _, _, _] _
          | ((repeat (with_reducible (first | assumption | refine Has.set4 (p := .int .i64 0) (q := .int .i64 0) (r := .int .u64 0) (s := .int .i64 0) ?_ | refine Has.alloc ?_ _ | refine Has.far ?_ (by omega)))); done)
      · repeat (with_reducible (first | exact hL | refine Has.alloc ?_ _ | refine Has.drew ?_ | refine Has.far ?_ (by omega)))
      · repeat (with_reducible (first | exact hB | refine Below.al ?_ _ | refine Below.drew ?_ | refine Below.st ?_ (by omega)))
  case rest =>
    obtain ⟨X, Y, rfl, rfl, hXP, hYP, hXY, hX, hY, hL, hB⟩ := hcut
    obtain ⟨l0, l1, l2⟩ := hL.c3
    obtain ⟨x0, x1, x2, x3⟩ := hX.c4
    obtain ⟨y0, y1, y2, y3⟩ := hY.c4
    by_cases ca : cls D (siz W a) = 4
    · have ea : (cls D (siz W a) == 4) = true := by simp [ca]
      have hN := Lib.hid (show divF W D mode a b = (jn W 0 (qz D), 0) by unfold divF; rw [if_pos (.inl ca)])
      clear ca
      go_wp2_with fail
      refine (quiet_c W D E h _).mono ?_
      rintro e w2 ⟨rfl, hb⟩
      go_wp2
      go_ret3
      exact ⟨by rw [hN.out]; rfl, bt hB hb⟩
    by_cases cb : cls D (siz W b) = 4
    · have ea : (cls D (siz W a) == 4) = false := by simp [ca]
      have eb : (cls D (siz W b) == 4) = true := by simp [cb]
      have hN := Lib.hid (show divF W D mode a b = (jn W 0 (qz D), 0) by unfold divF; rw [if_pos (.inr cb)])
      clear ca cb
      go_wp2_with fail
      refine (quiet_c W D E h _).mono ?_
      rintro e w2 ⟨rfl, hb⟩
      go_wp2
      go_ret3
      exact ⟨by rw [hN.out]; rfl, bt hB hb⟩
    have ea : (cls D (siz W a) == 4) = false := by simp [ca]
    have eb : (cls D (siz W b) == 4) = false := by simp [cb]
    have hO := Lib.hid (opDiv_c W D E mode a b h hm ha hb' ca cb)
    clear ca cb
    go_wp2_with fail
    refine (hO.out _).mono ?_
    rintro e w2 ⟨rfl, hb⟩
    go_wp2
    go_ret3
    exact ⟨rfl, bt hB hb⟩

set_option maxHeartbeats 1000000 in
theorem Div_c (k W D E mode a b : Int) (hk : KK k W D E) (hm : Mode mode) (ha : okB W a = true) (hb' : okB W b = true) (w : World) :
    Calls Tryd.prog 22 #[.int .i64 k, .int .i64 mode, .int .i64 a, .int .i64 b] w fun e w' => e = .returned (.tuple #[.int .i64 (divF W D mode a b).1, .int .i64 (divF W D mode a b).2, .int .i64 0]) ∧ Below w.heap.size w w' := by
  have H := Lib.hid (two_div k W D E mode a b hk hm ha hb')
  clear hk hm ha hb'
  go_enter Tryd.func22, Tryd.ntmps22
  go_wp2_with fail
  refine (H.out _).mono ?_
  rintro e w1 ⟨rfl, hb⟩
  go_wp2
  go_ret3
  exact ⟨rfl, hb⟩
theorem Mul_bad (k mode a b : Int) (hbad : BadTwo k mode a b) (w : World) :
    Calls Tryd.prog 20 #[.int .i64 k, .int .i64 mode, .int .i64 a, .int .i64 b] w fun e w' => e = .returned (.tuple #[.int .i64 0, .int .i64 0, .int .i64 2]) ∧ Below w.heap.size w w' := by
  have H := Lib.hid (two_bad k mode a b 63 hbad)
  clear hbad
  go_enter Tryd.func20, Tryd.ntmps20
  go_wp2_with fail
  refine (H.out _).mono ?_
  rintro e w1 ⟨rfl, hb⟩
  go_wp2
  go_ret3
  exact ⟨rfl, hb⟩

theorem Div_bad (k mode a b : Int) (hbad : BadTwo k mode a b) (w : World) :
    Calls Tryd.prog 22 #[.int .i64 k, .int .i64 mode, .int .i64 a, .int .i64 b] w fun e w' => e = .returned (.tuple #[.int .i64 0, .int .i64 0, .int .i64 2]) ∧ Below w.heap.size w w' := by
  have H := Lib.hid (two_bad k mode a b 65 hbad)
  clear hbad
  go_enter Tryd.func22, Tryd.ntmps22
  go_wp2_with fail
  refine (H.out _).mono ?_
  rintro e w1 ⟨rfl, hb⟩
  go_wp2
  go_ret3
  exact ⟨rfl, hb⟩

end Go.Proofs.YtfdenbgmogojeaaDoor
