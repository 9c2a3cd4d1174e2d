/- Contracts of math/bits.Mul64 and of layout's mul: the rounded exact product of two floats that are taken apart, and its flags; premises as written. -/
import Derived.Test.YtfdenbgmogojeaaDoorFloSb
import Derived.Lib.Mul64
import Derived.Laws.Bits64b
namespace Go.Proofs.YtfdenbgmogojeaaDoor
open Go.RowKit Go.Lib

theorem mk32 (a : Nat) (ha : a < 18446744073709551616) : bits .and .u64 (a : Int) 4294967295 = ((a % 4294967296 : Nat) : Int) := by
  have h := bits_and_u64_nat a 4294967295 ha (by omega)
  have e : a &&& 4294967295 = a % 4294967296 := Nat.and_two_pow_sub_one_eq_mod a 32
  rw [e] at h
  exact h
theorem dv32 (a : Nat) : (a : Int) / 4294967296 = ((a / 4294967296 : Nat) : Int) := by omega
theorem mulNN (a b : Nat) : (a : Int) * (b : Int) = ((a * b : Nat) : Int) := (Int.natCast_mul a b).symm
theorem addNN (a b : Nat) : (a : Int) + (b : Int) = ((a + b : Nat) : Int) := (Int.natCast_add a b).symm
theorem wrNN (a : Nat) (ha : a < 18446744073709551616) : IntKind.u64.wrap (a : Int) = (a : Int) := by rw [IntKind.wrap_u64]; omega
theorem wrMM (a : Nat) : IntKind.u64.wrap (a : Int) = ((a % 18446744073709551616 : Nat) : Int) := by rw [IntKind.wrap_u64]; omega

set_option maxHeartbeats 1000000 in
theorem Mul64_c (x y : Nat) (hx : x < 18446744073709551616) (hy : y < 18446744073709551616) (w : World) :
    Calls Tryd.prog 104 #[.int .u64 x, .int .u64 y] w fun e w' => e = .returned (.tuple #[.int .u64 (hiP (x * y)), .int .u64 (loP (x * y))]) ∧ w = w' := by
  obtain ⟨bd, bt, bw, hhi⟩ := Lib.mul64_hi x y hx hy
  have ba := Lib.half_mul_le (a := x / 4294967296) (b := y / 4294967296) (by omega) (by omega)
  have bb := Lib.half_mul_le (a := x / 4294967296) (b := y % 4294967296) (by omega) (by omega)
  have bc := Lib.half_mul_le (a := x % 4294967296) (b := y / 4294967296) (by omega) (by omega)
  have ba' : x / 4294967296 * (y / 4294967296) < 18446744073709551616 := by omega
  have bb' : x / 4294967296 * (y % 4294967296) < 18446744073709551616 := by omega
  have bc' : x % 4294967296 * (y / 4294967296) < 18446744073709551616 := by omega
  have bh1 : x / 4294967296 * (y / 4294967296) + (x / 4294967296 * (y % 4294967296) + x % 4294967296 * (y % 4294967296) / 4294967296) / 4294967296 < 18446744073709551616 := by omega
  have bh : x / 4294967296 * (y / 4294967296) + (x / 4294967296 * (y % 4294967296) + x % 4294967296 * (y % 4294967296) / 4294967296) / 4294967296 + ((x / 4294967296 * (y % 4294967296) + x % 4294967296 * (y % 4294967296) / 4294967296) % 4294967296 + x % 4294967296 * (y / 4294967296)) / 4294967296 < 18446744073709551616 := by omega
  go_enter Tryd.func104, Tryd.ntmps104
  go_wp2
  simp only [mk32 x hx, mk32 y hy, dv32, mulNN, addNN, wrNN _ bd, wrNN _ bb', wrNN _ bt, mk32 _ bt, wrNN _ bc', wrNN _ bw, wrNN _ ba', wrNN _ bh1, wrNN _ bh, wrMM (x * y)]
  rw [hhi]
  go_ret2
  exact ⟨rfl, rfl⟩

/-- The product of two floats that are taken apart. -/
def sgX (sx sy : Int) : Int := if sx = sy then 0 else 1
def numMul (W D mode cx sx mx ex cy sy my ey : Int) : Int × Int :=
  if (cx = 0 ∨ cy = 0) ∧ (cx = 3 ∨ cy = 3) then (jn W 0 (qz D), 1)
  else if cx = 3 ∨ cy = 3 then (jn W (sgX sx sy) (endl D), 0)
  else if cx = 0 ∨ cy = 0 then (jn W (sgX sx sy) 0, 0)
  else roundF W D mode (sgX sx sy) (mx.toNat * my.toNat) (ex + ey) false
theorem sgX_s (sx sy : Int) : Sgn (sgX sx sy) := by unfold sgX Sgn; split <;> simp
theorem sgX_x (sx sy : Int) (hx : Sgn sx) (hy : Sgn sy) : bits .xor .i64 sx sy = sgX sx sy := by
  rcases hx with rfl | rfl <;> rcases hy with rfl | rfl <;> rfl

set_option maxHeartbeats 8000000 in
theorem mul_sp (W D E mode cx sx mx ex cy sy my ey : Int) (h : KL W D E) (hsx : Sgn sx) (hsy : Sgn sy) (a0 a3 b0 b3 : Bool) (h1 : (cx == 0) = a0) (h2 : (cx == 3) = a3) (h3 : (cy == 0) = b0) (h4 : (cy == 3) = b3) (hsp : (a0 || a3 || b0 || b3) = true) (hx : (a0 && a3) = false) (hy : (b0 && b3) = false) (r1 r2 : Int)
    (hr : (r1, r2) = if (a0 || b0) && (a3 || b3) then (jn W 0 (qz D), 1) else if a3 || b3 then (jn W (sgX sx sy) (endl D), 0) else (jn W (sgX sx sy) 0, 0)) (w : World) :
    Calls Tryd.prog 63 #[lay W D E, .int .i64 mode, num cx sx mx ex, num cy sy my ey] w fun e w' => e = .returned (.tuple #[.int .i64 r1, .int .i64 r2]) ∧ Below w.heap.size w w' := by
  have hxo := sgX_x sx sy hsx hsy
  have hS := sgX_s sx sy
  generalize sgX sx sy = sg at *
  have Hs := Lib.hid hS; clear hS
  have hh := Lib.hid (show (0 : Int) ≤ 0 ∧ (0 : Int) < Go.Proofs.YtfdenbgmogojeaaDoor.hf W from ⟨by omega, by have := (one_b h).2; omega⟩)
  clear hsx hsy
  cases a0 <;> cases a3 <;> cases b0 <;> cases b3 <;> first | (exact absurd hsp (by decide)) | (exact absurd hx (by decide)) | (exact absurd hy (by decide)) | skip
  all_goals
    clear hsp hx hy
    simp only [Bool.or_false, Bool.or_true, Bool.and_true, Bool.and_false, if_true, if_false, Bool.false_eq_true, Prod.mk.injEq] at hr
    obtain ⟨rfl, rfl⟩ := hr
    go_enter Tryd.func63, Tryd.ntmps63
    go_wp2_with (first | (go_at_call 89; refine (quiet_c W D E h _).mono ?_; rintro e w1 ⟨rfl, hb⟩) | (go_at_call 90; refine (infinite_c W D E _ h Hs.out _).mono ?_; rintro e w1 ⟨rfl, hb⟩) | (go_at_call 80; refine (join_c W D E _ 0 h Hs.out hh.out.1 hh.out.2 _).mono ?_; rintro e w1 ⟨rfl, hb⟩) | go_in)
    go_ret2
    exact ⟨rfl, bt (by go_grown) hb⟩
set_option maxHeartbeats 8000000 in
theorem mul_fin (W D E mode cx sx mx ex cy sy my ey : Int) (h : KL W D E) (hm : Mode mode) (hsx : Sgn sx) (hsy : Sgn sy) (h1 : (cx == 0) = false) (h2 : (cx == 3) = false) (h3 : (cy == 0) = false) (h4 : (cy == 3) = false)
    (hmx : M54 mx) (hmy : M54 my) (px : 0 < mx) (py : 0 < my) (ex0 : -1100 ≤ ex) (ex1 : ex ≤ 1000) (ey0 : -1100 ≤ ey) (ey1 : ey ≤ 1000) (w : World) :
    Calls Tryd.prog 63 #[lay W D E, .int .i64 mode, num cx sx mx ex, num cy sy my ey] w fun e w' => e = .returned (.tuple #[.int .i64 (roundF W D mode (sgX sx sy) (mx.toNat * my.toNat) (ex + ey) false).1, .int .i64 (roundF W D mode (sgX sx sy) (mx.toNat * my.toNat) (ex + ey) false).2]) ∧ Below w.heap.size w w' := by
  have hxo := sgX_x sx sy hsx hsy
  have hS := sgX_s sx sy
  generalize sgX sx sy = sg at *
  have Hs := Lib.hid hS; clear hS
  clear hsx hsy
  obtain ⟨X, rfl⟩ := Int.eq_ofNat_of_zero_le hmx.1
  obtain ⟨Y, rfl⟩ := Int.eq_ofNat_of_zero_le hmy.1
  have hX : X < 18014398509481984 := by have := hmx.2; omega
  have hY : Y < 18014398509481984 := by have := hmy.2; omega
  have hX0 : 0 < X := by omega
  have hY0 : 0 < Y := by omega
  rw [Int.toNat_natCast, Int.toNat_natCast]
  have hN : X * Y < 2 ^ 108 := by
    have : X * Y ≤ 18014398509481983 * 18014398509481983 := Nat.mul_le_mul (by omega) (by omega)
    omega
  have hN0 : X * Y ≠ 0 := fun q => by rcases Nat.mul_eq_zero.1 q with q | q <;> omega
  have hb := bl_mono_le _ 108 hN
  have hh : 11 ≤ D ∧ D ≤ 53 ∧ -1074 ≤ low D := by rcases h with ⟨rfl, rfl, rfl⟩ | ⟨rfl, rfl, rfl⟩ | ⟨rfl, rfl, rfl⟩ <;> decide
  have hM := Lib.hid (fun w' => Mul64_c X Y (by omega) (by omega) w')
  have hR := Lib.hid (round_c W D E mode sg (hiP (X * Y)) (loP (X * Y)) (ex + ey) false h hm Hs.out (hiP_u _ (Nat.lt_of_lt_of_le hN (by decide))) (loP_u _) (by rw [nn_parts]; exact hN0) (by omega) (by rw [nn_parts]; omega))
  rw [nn_parts] at hR
  clear hmx hmy hN hN0 hb hh px py hX hY hX0 hY0
  go_enter Tryd.func63, Tryd.ntmps63
  go_wp2_with (go_at_call 103; go_in)
  refine (hM.out _).mono ?_
  rintro e w1 ⟨rfl, rfl⟩
  generalize hiP (X * Y) = H at *
  generalize loP (X * Y) = L at *
  go_wp2_with fail
  refine (hR.out _).mono ?_
  rintro e w2 ⟨rfl, hb⟩
  go_wp2
  go_ret2
  exact ⟨rfl, bt (by go_grown) hb⟩
end Go.Proofs.YtfdenbgmogojeaaDoor
