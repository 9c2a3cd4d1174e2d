/- Contracts of package float's FromInt, whole and ToInt for every input: errors, and the rounded float or int with its flags. -/
import Derived.Test.YtfdenbgmogojeaaDoorFloCv
namespace Go.Proofs.YtfdenbgmogojeaaDoor
open Go.RowKit
set_option maxHeartbeats 2000000 in
theorem FromInt_nok (k mode n : Int) (hk : NoK k) (w : World) :
    Calls Tryd.prog 30 #[.int .i64 k, .int .i64 mode, .int .i64 n] w fun e w' => e = .returned (.tuple #[.int .i64 0, .int .i64 0, .int .i64 2]) ∧ Below w.heap.size w w' := by
  obtain ⟨h2, h4, h8⟩ := hk
  go_enter Tryd.func30, Tryd.ntmps30
  go_wp2_with fail
  refine (layoutOf_no k h2 h4 h8 _).mono ?_
  rintro e w1 ⟨rfl, hb⟩
  have hB := hb.alloc hb.size (.cells #[.int .i64 0, .int .i64 0, .int .i64 0] 48)
  go_wp2
  go_ret3
  exact ⟨rfl, hB⟩
set_option maxHeartbeats 2000000 in
theorem FromInt_nom (k W D E mode n : Int) (hk : KK k W D E) (hm : ¬ Mode mode) (w : World) :
    Calls Tryd.prog 30 #[.int .i64 k, .int .i64 mode, .int .i64 n] w fun e w' => e = .returned (.tuple #[.int .i64 0, .int .i64 0, .int .i64 2]) ∧ Below w.heap.size w w' := by
  have Hk := Lib.hid hk; clear hk
  have Hm := Lib.hid hm; clear hm
  go_enter Tryd.func30, Tryd.ntmps30
  go_wp2_with fail
  refine (layoutOf_c k W D E Hk.out _).mono ?_
  rintro e wa ⟨rfl, hb⟩
  have hB := hb.alloc hb.size (.cells #[.int .i64 W, .int .i64 D, .int .i64 E] 48)
  have hL := Has.new wa [.int .i64 W, .int .i64 D, .int .i64 E] 48
  obtain ⟨l0, l1, l2⟩ := hL.c3
  go_wp2_with fail
  refine (isMode_no mode Hm.out _).mono ?_
  rintro e w1 ⟨rfl, rfl⟩
  go_wp2
  go_ret3
  exact ⟨rfl, hB⟩
set_option maxHeartbeats 2000000 in
theorem FromInt_zero (k W D E mode : Int) (hk : KK k W D E) (hm : Mode mode) (w : World) :
    Calls Tryd.prog 30 #[.int .i64 k, .int .i64 mode, .int .i64 0] w fun e w' => e = .returned (.tuple #[.int .i64 (jn W 0 0), .int .i64 0, .int .i64 0]) ∧ Below w.heap.size w w' := by
  have h := hk.kl
  have hf0 : 0 < hf W := by rcases h with ⟨rfl, rfl, rfl⟩ | ⟨rfl, rfl, rfl⟩ | ⟨rfl, rfl, rfl⟩ <;> decide
  have Hk := Lib.hid hk; clear hk
  have Hm := Lib.hid hm; clear hm
  go_enter Tryd.func30, Tryd.ntmps30
  go_wp2_with fail
  refine (layoutOf_c k W D E Hk.out _).mono ?_
  rintro e wa ⟨rfl, hb⟩
  have hB := hb.alloc hb.size (.cells #[.int .i64 W, .int .i64 D, .int .i64 E] 48)
  have hL := Has.new wa [.int .i64 W, .int .i64 D, .int .i64 E] 48
  obtain ⟨l0, l1, l2⟩ := hL.c3
  go_wp2_with fail
  refine (isMode_c mode Hm.out _).mono ?_
  rintro e w1 ⟨rfl, rfl⟩
  go_wp2_with fail
  refine (join_c W D E 0 0 h (.inl rfl) (Int.le_refl _) (by omega) _).mono ?_
  rintro e w2 ⟨rfl, hb⟩
  have hB := bt hB hb
  go_wp2
  go_ret3
  exact ⟨rfl, hB⟩
set_option maxHeartbeats 2000000 in
theorem FromInt_pos (k W D E mode n : Int) (hk : KK k W D E) (hm : Mode mode) (n0 : 0 < n) (n1 : n < 9223372036854775808) (w : World) :
    Calls Tryd.prog 30 #[.int .i64 k, .int .i64 mode, .int .i64 n] w fun e w' => e = .returned (.tuple #[.int .i64 (roundF W D mode 0 n.natAbs 0 false).1, .int .i64 (roundF W D mode 0 n.natAbs 0 false).2, .int .i64 0]) ∧ Below w.heap.size w w' := by
  have h := hk.kl
  have hbt := hid_b W D E h
  have hDt := (hid_pow W D E h).2.2
  have hbl : bl n.natAbs ≤ 64 := bl_mono_le _ 64 (by omega)
  obtain ⟨A, hA⟩ : ∃ A, IntKind.u64.wrap n = A := ⟨_, rfl⟩
  have hAv : A = n := by rw [← hA, IntKind.wrap_u64]; omega
  have hN : A.toNat = n.natAbs := by omega
  have Hr := Lib.hid (fun w' => round_c W D E mode 0 0 A 0 false h hm (.inl rfl) ⟨by omega, by omega⟩ ⟨by omega, by omega⟩ (by rw [nn_zero]; omega) (by omega) (by rw [nn_zero, hN]; omega) w')
  rw [nn_zero, hN] at Hr
  clear hbt hDt hbl hN hAv
  have Hk := Lib.hid hk; clear hk
  have Hm := Lib.hid hm; clear hm
  go_enter Tryd.func30, Tryd.ntmps30
  go_wp2_with fail
  refine (layoutOf_c k W D E Hk.out _).mono ?_
  rintro e wa ⟨rfl, hb⟩
  have hB := hb.alloc hb.size (.cells #[.int .i64 W, .int .i64 D, .int .i64 E] 48)
  have hL := Has.new wa [.int .i64 W, .int .i64 D, .int .i64 E] 48
  obtain ⟨l0, l1, l2⟩ := hL.c3
  go_wp2_with fail
  refine (isMode_c mode Hm.out _).mono ?_
  rintro e w1 ⟨rfl, rfl⟩
  go_wp2_with fail
  refine (Hr.out _).mono ?_
  rintro e w2 ⟨rfl, hb⟩
  have hB := bt (hB.alloc hB.size _) hb
  go_wp2
  go_ret3
  exact ⟨rfl, hB⟩
set_option maxHeartbeats 2000000 in
theorem FromInt_neg (k W D E mode n : Int) (hk : KK k W D E) (hm : Mode mode) (n0 : n < 0) (n1 : -9223372036854775808 ≤ n) (w : World) :
    Calls Tryd.prog 30 #[.int .i64 k, .int .i64 mode, .int .i64 n] w fun e w' => e = .returned (.tuple #[.int .i64 (roundF W D mode 1 n.natAbs 0 false).1, .int .i64 (roundF W D mode 1 n.natAbs 0 false).2, .int .i64 0]) ∧ Below w.heap.size w w' := by
  have h := hk.kl
  have hbt := hid_b W D E h
  have hDt := (hid_pow W D E h).2.2
  have hbl : bl n.natAbs ≤ 64 := bl_mono_le _ 64 (by omega)
  obtain ⟨A, hA⟩ : ∃ A, IntKind.u64.wrap n = A := ⟨_, rfl⟩
  have hAv : A = n + 18446744073709551616 := by rw [← hA, IntKind.wrap_u64]; omega
  obtain ⟨B, hBv⟩ : ∃ B, IntKind.u64.wrap (-A) = B := ⟨_, rfl⟩
  have hN : B.toNat = n.natAbs := by rw [← hBv, IntKind.wrap_u64]; omega
  have hB1 : 0 < B ∧ B < 18446744073709551616 := by rw [← hBv, IntKind.wrap_u64]; omega
  have Hr := Lib.hid (fun w' => round_c W D E mode 1 0 B 0 false h hm (.inr rfl) ⟨by omega, by omega⟩ ⟨by omega, by omega⟩ (by rw [nn_zero]; omega) (by omega) (by rw [nn_zero, hN]; omega) w')
  rw [nn_zero, hN] at Hr
  clear hbt hDt hbl hN hAv
  have Hk := Lib.hid hk; clear hk
  have Hm := Lib.hid hm; clear hm
  go_enter Tryd.func30, Tryd.ntmps30
  go_wp2_with fail
  refine (layoutOf_c k W D E Hk.out _).mono ?_
  rintro e wa ⟨rfl, hb⟩
  have hB := hb.alloc hb.size (.cells #[.int .i64 W, .int .i64 D, .int .i64 E] 48)
  have hL := Has.new wa [.int .i64 W, .int .i64 D, .int .i64 E] 48
  obtain ⟨l0, l1, l2⟩ := hL.c3
  go_wp2_with fail
  refine (isMode_c mode Hm.out _).mono ?_
  rintro e w1 ⟨rfl, rfl⟩
  go_wp2_with fail
  refine (Hr.out _).mono ?_
  rintro e w2 ⟨rfl, hb⟩
  have hB := bt (hB.alloc hB.size _) hb
  go_wp2
  go_ret3
  exact ⟨rfl, hB⟩

/-- The size of the whole number that m * 2^e rounds to. -/
def wholeF (mode s : Int) (M : Nat) (e : Int) : Int := cutK M (-e) + (if stepsF mode s (cutK M (-e)) (cutR M false (-e)) = true then 1 else 0)

set_option maxHeartbeats 2000000 in
theorem whole_far (c s m e mode : Int) (m0 : 0 ≤ m) (m1 : m < 18014398509481984) (e0 : -1100 ≤ e) (e1 : e ≤ 1100) (h : 64 < (bl m.toNat : Int) + e) (w : World) :
    Calls Tryd.prog 84 #[num c s m e, .int .i64 mode] w fun e' w' => e' = .returned (.tuple #[.int .u64 0, .int .i64 0, .bool false]) ∧ Below w.heap.size w w' := by
  have hLen := Lib.hid (fun w' => Len64_c m m0 (by omega) w')
  have hb := bl_mono_le m.toNat 54 (by omega)
  generalize hL : bl m.toNat = L at *
  have HL := Lib.hid hL; clear hL
  have v1 : IntKind.i64.wrap ((L : Int) + e) = (L : Int) + e := IntWalk.i64_in _ (by omega)
  go_enter Tryd.func84, Tryd.ntmps84
  have hX := Has.new w [.int .i64 c, .int .i64 s, .int .u64 m, .int .i64 e] 70
  obtain ⟨x0, x1, x2, x3⟩ := hX.c4
  have hB : Below w.heap.size w (w.alloc (.cells #[.int .i64 c, .int .i64 s, .int .u64 m, .int .i64 e] 70)) := by go_grown
  go_wp2_with fail
  go_region_held3 (fun w' => Below w.heap.size w w' ∧ w'.cell? ⟨w.heap.size, 0, none⟩ = some (.int .i64 c) ∧ w'.cell? ⟨w.heap.size, 1, none⟩ = some (.int .i64 s) ∧ w'.cell? ⟨w.heap.size, 2, none⟩ = some (.int .u64 m) ∧ w'.cell? ⟨w.heap.size, 3, none⟩ = some (.int .i64 e))
    (first | exact ⟨hB, x0, x1, x2, x3⟩ | exact ⟨hB.drew, x0, x1, x2, x3⟩ | assumption)
    (first | (go_at_call 116; refine (hLen.out _).mono ?_; rintro e' w' ⟨rfl, rfl⟩))
  rename_i hH
  obtain ⟨hB, x0, x1, x2, x3⟩ := hH
  go_wp2_with fail
  go_ret3
  exact ⟨rfl, hB⟩

set_option maxHeartbeats 2000000 in
theorem whole_c (c s m e mode : Int) (hm : Mode mode) (m0 : 0 ≤ m) (m1 : m < 18014398509481984) (e0 : -1100 ≤ e) (e1 : e ≤ 1100) (h : (bl m.toNat : Int) + e ≤ 64) (h63 : e ≤ 63) (w : World) :
    Calls Tryd.prog 84 #[num c s m e, .int .i64 mode] w fun e' w' => e' = .returned (.tuple #[.int .u64 (wholeF mode s m.toNat e), .int .i64 (cutR m.toNat false (-e)), .bool true]) ∧ Below w.heap.size w w' := by
  have hcut : (0 < -e ∧ nn 0 m / 2 ^ (-e - 1).toNat < 18446744073709551616) ∨ (-e ≤ 0 ∧ -63 ≤ -e ∧ (0 : Int) = 0 ∧ m.toNat * 2 ^ (-(-e)).toNat < 18446744073709551616) := by
    by_cases q : 0 < -e
    · left
      refine ⟨q, Nat.lt_of_le_of_lt (Nat.div_le_self _ _) ?_⟩
      rw [nn_zero]; omega
    · right
      refine ⟨by omega, by omega, rfl, ?_⟩
      have h1 : m.toNat * 2 ^ (-(-e)).toNat < 2 ^ bl m.toNat * 2 ^ (-(-e)).toNat := Nat.mul_lt_mul_of_pos_right (bl_lt _) (Nat.two_pow_pos _)
      rw [← Nat.pow_add] at h1
      exact Nat.lt_of_lt_of_le h1 (Nat.pow_le_pow_right (by decide) (by omega) : _ ≤ 2 ^ 64)
  have hku : U64 (cutK m.toNat (-e)) ∧ (0 < -e → cutK m.toNat (-e) < 18014398509481984) := by
    rcases hcut with ⟨q, _⟩ | ⟨q, _, _, hl⟩
    · have hk : cutK m.toNat (-e) = ((m.toNat / 2 ^ (-e).toNat : Nat) : Int) := by unfold cutK; rw [if_neg (by omega)]
      have hle := Nat.div_le_self m.toNat (2 ^ (-e).toNat)
      rw [hk]; revert hle; generalize m.toNat / 2 ^ (-e).toNat = y; intro hle; unfold U64; omega
    · have hk : cutK m.toNat (-e) = ((m.toNat * 2 ^ (-(-e)).toNat : Nat) : Int) := by unfold cutK; rw [if_pos (by omega)]
      rw [hk]; revert hl; generalize m.toNat * 2 ^ (-(-e)).toNat = y; intro hl; unfold U64; omega
  have Hst := Lib.hid (fun w' => steps_c mode s (cutK m.toNat (-e)) (cutR m.toNat false (-e)) hm (cutR_r _ _ _) hku.1 w')
  have Hc := Lib.hid (fun w' => cut_c 0 0 m 0 (-e) false ⟨by omega, by omega⟩ ⟨by omega, by omega⟩ (by omega) hcut w')
  rw [nn_zero] at Hc
  have hinc : stepsF mode s (cutK m.toNat (-e)) (cutR m.toNat false (-e)) = true → cutK m.toNat (-e) < 18014398509481984 := fun q => by
    by_cases z : 0 < -e
    · exact hku.2 z
    · have hr : cutR m.toNat false (-e) = 0 := by unfold cutR; rw [if_pos (by omega)]
      rw [hr, steps_0] at q; cases q
  obtain ⟨S, hS⟩ : ∃ S, S = stepsF mode s (cutK m.toNat (-e)) (cutR m.toNat false (-e)) := ⟨_, rfl⟩
  have hwh : wholeF mode s m.toNat e = cutK m.toNat (-e) + (if S = true then 1 else 0) := by rw [hS]; rfl
  rw [← hS] at hinc Hst
  rw [hwh]
  obtain ⟨ku0, ku1⟩ := hku.1
  have w1 : IntKind.i64.wrap (-e) = -e := IntWalk.i64_in _ (by omega)
  clear hcut hku hS hwh hm
  generalize cutK m.toNat (-e) = K at *
  generalize cutR m.toNat false (-e) = R at *
  have hLen := Lib.hid (fun w' => Len64_c m m0 (by omega) w')
  have hb := bl_mono_le m.toNat 54 (by omega)
  generalize hL : bl m.toNat = L at *
  have HL := Lib.hid hL; clear hL
  have v1 : IntKind.i64.wrap ((L : Int) + e) = (L : Int) + e := IntWalk.i64_in _ (by omega)
  go_enter Tryd.func84, Tryd.ntmps84
  have hX := Has.new w [.int .i64 c, .int .i64 s, .int .u64 m, .int .i64 e] 70
  obtain ⟨x0, x1, x2, x3⟩ := hX.c4
  have hB : Below w.heap.size w (w.alloc (.cells #[.int .i64 c, .int .i64 s, .int .u64 m, .int .i64 e] 70)) := by go_grown
  go_wp2_with fail
  go_region_held3 (fun w' => Below w.heap.size w w' ∧ w'.cell? ⟨w.heap.size, 0, none⟩ = some (.int .i64 c) ∧ w'.cell? ⟨w.heap.size, 1, none⟩ = some (.int .i64 s) ∧ w'.cell? ⟨w.heap.size, 2, none⟩ = some (.int .u64 m) ∧ w'.cell? ⟨w.heap.size, 3, none⟩ = some (.int .i64 e))
    (first | exact ⟨hB, x0, x1, x2, x3⟩ | exact ⟨hB.drew, x0, x1, x2, x3⟩ | assumption)
    (first | (go_at_call 116; refine (hLen.out _).mono ?_; rintro e' w' ⟨rfl, rfl⟩))
  rename_i hH
  obtain ⟨hB, x0, x1, x2, x3⟩ := hH
  go_wp2_with fail
  refine (Hc.out _).mono ?_
  rintro e' w2 ⟨rfl, hb⟩
  have x1 : w2.cell? ⟨w.heap.size, 1, none⟩ = some (.int .i64 s) := ck hb x1
  have hB := bt hB hb
  clear hb x0 x2 x3
  go_wp2_with fail
  refine (Hst.out _).mono ?_
  rintro e' w3 ⟨rfl, rfl⟩
  cases S
  · have HK : (K : Int) + 0 = K := by omega
    go_wp2_with fail
    go_ret3
    exact ⟨by simp, hB⟩
  · have hk2 := hinc rfl
    have w2 : IntKind.u64.wrap (K + 1) = K + 1 := IntWalk.u64_in _ (by omega)
    go_wp2_with fail
    go_ret3
    exact ⟨by simp, hB⟩

set_option maxHeartbeats 2000000 in
theorem ToInt_nok (k mode a : Int) (hk : NoK k) (w : World) :
    Calls Tryd.prog 32 #[.int .i64 k, .int .i64 mode, .int .i64 a] w fun e w' => e = .returned (.tuple #[.int .i64 0, .int .i64 0, .int .i64 2]) ∧ Below w.heap.size w w' := by
  obtain ⟨h2, h4, h8⟩ := hk
  go_enter Tryd.func32, Tryd.ntmps32
  go_wp2_with fail
  refine (layoutOf_no k h2 h4 h8 _).mono ?_
  rintro e w1 ⟨rfl, hb⟩
  have hB := hb.alloc hb.size (.cells #[.int .i64 0, .int .i64 0, .int .i64 0] 48)
  go_wp2
  go_ret3
  exact ⟨rfl, hB⟩

set_option maxHeartbeats 2000000 in
theorem ToInt_nom (k W D E mode a : Int) (hk : KK k W D E) (hm : ¬ Mode mode) (w : World) :
    Calls Tryd.prog 32 #[.int .i64 k, .int .i64 mode, .int .i64 a] w fun e w' => e = .returned (.tuple #[.int .i64 0, .int .i64 0, .int .i64 2]) ∧ Below w.heap.size w w' := by
  have h := hk.kl
  have Hk := Lib.hid hk; clear hk
  have Hm := Lib.hid hm; clear hm
  go_enter Tryd.func32, Tryd.ntmps32
  go_wp2_with fail
  refine (layoutOf_c k W D E Hk.out _).mono ?_
  rintro e wa ⟨rfl, hb⟩
  have hB := hb.alloc hb.size (.cells #[.int .i64 W, .int .i64 D, .int .i64 E] 48)
  have hL := Has.new wa [.int .i64 W, .int .i64 D, .int .i64 E] 48
  obtain ⟨l0, l1, l2⟩ := hL.c3
  go_wp2_with fail
  refine (isMode_no mode Hm.out _).mono ?_
  rintro e w1 ⟨rfl, rfl⟩
  go_wp2
  go_ret3
  exact ⟨rfl, hB⟩

set_option maxHeartbeats 2000000 in
theorem ToInt_out (k W D E mode a : Int) (hk : KK k W D E) (hm : Mode mode) (hv : okB W a = false) (w : World) :
    Calls Tryd.prog 32 #[.int .i64 k, .int .i64 mode, .int .i64 a] w fun e w' => e = .returned (.tuple #[.int .i64 0, .int .i64 0, .int .i64 2]) ∧ Below w.heap.size w w' := by
  have h := hk.kl
  have Hk := Lib.hid hk; clear hk
  have Hm := Lib.hid hm; clear hm
  go_enter Tryd.func32, Tryd.ntmps32
  go_wp2_with fail
  refine (layoutOf_c k W D E Hk.out _).mono ?_
  rintro e wa ⟨rfl, hb⟩
  have hB := hb.alloc hb.size (.cells #[.int .i64 W, .int .i64 D, .int .i64 E] 48)
  have hL := Has.new wa [.int .i64 W, .int .i64 D, .int .i64 E] 48
  obtain ⟨l0, l1, l2⟩ := hL.c3
  go_wp2_with fail
  refine (isMode_c mode Hm.out _).mono ?_
  rintro e w1 ⟨rfl, rfl⟩
  go_wp2_with fail
  refine (holds_c W D E a h _).mono ?_
  rintro e w1 ⟨rfl, hb⟩
  have hB := bt hB hb
  have hL := hL.keep hb
  obtain ⟨l0, l1, l2⟩ := hL.c3
  go_wp2
  go_ret3
  exact ⟨rfl, hB⟩

set_option maxHeartbeats 2000000 in
theorem ToInt_far (k W D E mode a : Int) (hk : KK k W D E) (hm : Mode mode) (hv : okB W a = true) (hc : cls D (siz W a) = 3 ∨ cls D (siz W a) = 4) (w : World) :
    Calls Tryd.prog 32 #[.int .i64 k, .int .i64 mode, .int .i64 a] w fun e w' => e = .returned (.tuple #[.int .i64 0, .int .i64 0, .int .i64 10]) ∧ Below w.heap.size w w' := by
  have h := hk.kl
  have Hk := Lib.hid hk; clear hk
  have Hm := Lib.hid hm; clear hm
  have Ho := Lib.hid (fun w' => open_c W D E a h hv w')
  obtain ⟨s, hs⟩ : ∃ s, sgn W a = s := ⟨_, rfl⟩
  rw [hs] at Ho
  clear hs
  rcases hc with hc | hc
  · rw [hc] at Ho
    clear hc
    go_enter Tryd.func32, Tryd.ntmps32
    go_wp2_with fail
    refine (layoutOf_c k W D E Hk.out _).mono ?_
    rintro e wa ⟨rfl, hb⟩
    have hB := hb.alloc hb.size (.cells #[.int .i64 W, .int .i64 D, .int .i64 E] 48)
    have hL := Has.new wa [.int .i64 W, .int .i64 D, .int .i64 E] 48
    obtain ⟨l0, l1, l2⟩ := hL.c3
    go_wp2_with fail
    refine (isMode_c mode Hm.out _).mono ?_
    rintro e w1 ⟨rfl, rfl⟩
    go_wp2_with fail
    refine (holds_c W D E a h _).mono ?_
    rintro e w1 ⟨rfl, hb⟩
    have hB := bt hB hb
    have hL := hL.keep hb
    obtain ⟨l0, l1, l2⟩ := hL.c3
    go_wp2_with fail
    refine (Ho.out _).mono ?_
    rintro e w2 ⟨rfl, hb⟩
    have hB := bt hB hb
    have hX := Has.new w2 [.int .i64 3, .int .i64 s, .int .u64 (mant D (siz W a)), .int .i64 (expo D (siz W a))] 70
    have hB := hB.alloc hB.size (.cells #[.int .i64 3, .int .i64 s, .int .u64 (mant D (siz W a)), .int .i64 (expo D (siz W a))] 70)
    obtain ⟨x0, x1, x2, x3⟩ := hX.c4
    go_wp2
    go_ret3
    exact ⟨rfl, hB⟩
  · rw [hc] at Ho
    clear hc
    go_enter Tryd.func32, Tryd.ntmps32
    go_wp2_with fail
    refine (layoutOf_c k W D E Hk.out _).mono ?_
    rintro e wa ⟨rfl, hb⟩
    have hB := hb.alloc hb.size (.cells #[.int .i64 W, .int .i64 D, .int .i64 E] 48)
    have hL := Has.new wa [.int .i64 W, .int .i64 D, .int .i64 E] 48
    obtain ⟨l0, l1, l2⟩ := hL.c3
    go_wp2_with fail
    refine (isMode_c mode Hm.out _).mono ?_
    rintro e w1 ⟨rfl, rfl⟩
    go_wp2_with fail
    refine (holds_c W D E a h _).mono ?_
    rintro e w1 ⟨rfl, hb⟩
    have hB := bt hB hb
    have hL := hL.keep hb
    obtain ⟨l0, l1, l2⟩ := hL.c3
    go_wp2_with fail
    refine (Ho.out _).mono ?_
    rintro e w2 ⟨rfl, hb⟩
    have hB := bt hB hb
    have hX := Has.new w2 [.int .i64 4, .int .i64 s, .int .u64 (mant D (siz W a)), .int .i64 (expo D (siz W a))] 70
    have hB := hB.alloc hB.size (.cells #[.int .i64 4, .int .i64 s, .int .u64 (mant D (siz W a)), .int .i64 (expo D (siz W a))] 70)
    obtain ⟨x0, x1, x2, x3⟩ := hX.c4
    go_wp2
    go_ret3
    exact ⟨rfl, hB⟩

set_option maxHeartbeats 2000000 in
theorem ToInt_err (k W D E mode a s V R : Int) (okb : Bool) (hk : KK k W D E) (hm : Mode mode) (hv : okB W a = true) (hc : cls D (siz W a) ≤ 2) (hs : sgn W a = s) (hV : U64 V)
    (hw : ∀ w, Calls Tryd.prog 84 #[num (cls D (siz W a)) s (mant D (siz W a)) (expo D (siz W a)), .int .i64 mode] w fun e w' => e = .returned (.tuple #[.int .u64 V, .int .i64 R, .bool okb]) ∧ Below w.heap.size w w') (he : okb = false ∨ (okb = true ∧ 9223372036854775807 + s < V)) (w : World) :
    Calls Tryd.prog 32 #[.int .i64 k, .int .i64 mode, .int .i64 a] w fun e w' => e = .returned (.tuple #[.int .i64 0, .int .i64 0, .int .i64 10]) ∧ Below w.heap.size w w' := by
  have h := hk.kl
  have Hk := Lib.hid hk; clear hk
  have Hm := Lib.hid hm; clear hm
  have Ho := Lib.hid (fun w' => open_c W D E a h hv w')
  rw [hs] at Ho
  have hs01 : s = 0 ∨ s = 1 := by have := sgn_s W a; unfold Sgn at this; omega
  have hcn := cls_nn D (siz W a)
  clear hs
  have Hw := Lib.hid hw; clear hw
  have c3 : (cls D (siz W a) == 3) = false := by simp; omega
  have c4 : (cls D (siz W a) == 4) = false := by simp; omega
  obtain ⟨V0, V1⟩ := hV
  clear hc hcn
  generalize cls D (siz W a) = c at *
  rcases he with rfl | ⟨rfl, he⟩
  · clear hs01
    go_enter Tryd.func32, Tryd.ntmps32
    go_wp2_with fail
    refine (layoutOf_c k W D E Hk.out _).mono ?_
    rintro e wa ⟨rfl, hb⟩
    have hB := hb.alloc hb.size (.cells #[.int .i64 W, .int .i64 D, .int .i64 E] 48)
    have hL := Has.new wa [.int .i64 W, .int .i64 D, .int .i64 E] 48
    obtain ⟨l0, l1, l2⟩ := hL.c3
    go_wp2_with fail
    refine (isMode_c mode Hm.out _).mono ?_
    rintro e w1 ⟨rfl, rfl⟩
    go_wp2_with fail
    refine (holds_c W D E a h _).mono ?_
    rintro e w1 ⟨rfl, hb⟩
    have hB := bt hB hb
    have hL := hL.keep hb
    obtain ⟨l0, l1, l2⟩ := hL.c3
    go_wp2_with fail
    refine (Ho.out _).mono ?_
    rintro e w2 ⟨rfl, hb⟩
    have hB := bt hB hb
    have hX := Has.new w2 [.int .i64 c, .int .i64 s, .int .u64 (mant D (siz W a)), .int .i64 (expo D (siz W a))] 70
    have hB := hB.alloc hB.size (.cells #[.int .i64 c, .int .i64 s, .int .u64 (mant D (siz W a)), .int .i64 (expo D (siz W a))] 70)
    obtain ⟨x0, x1, x2, x3⟩ := hX.c4
    go_wp2_with fail
    refine (Hw.out _).mono ?_
    rintro e w3 ⟨rfl, hb⟩
    have hB := bt hB hb
    have hX := hX.keep hb
    obtain ⟨x0, x1, x2, x3⟩ := hX.c4
    go_wp2
    go_ret3
    exact ⟨rfl, hB⟩
  · rcases hs01 with rfl | rfl
    · skip
      go_enter Tryd.func32, Tryd.ntmps32
      go_wp2_with fail
      refine (layoutOf_c k W D E Hk.out _).mono ?_
      rintro e wa ⟨rfl, hb⟩
      have hB := hb.alloc hb.size (.cells #[.int .i64 W, .int .i64 D, .int .i64 E] 48)
      have hL := Has.new wa [.int .i64 W, .int .i64 D, .int .i64 E] 48
      obtain ⟨l0, l1, l2⟩ := hL.c3
      go_wp2_with fail
      refine (isMode_c mode Hm.out _).mono ?_
      rintro e w1 ⟨rfl, rfl⟩
      go_wp2_with fail
      refine (holds_c W D E a h _).mono ?_
      rintro e w1 ⟨rfl, hb⟩
      have hB := bt hB hb
      have hL := hL.keep hb
      obtain ⟨l0, l1, l2⟩ := hL.c3
      go_wp2_with fail
      refine (Ho.out _).mono ?_
      rintro e w2 ⟨rfl, hb⟩
      have hB := bt hB hb
      have hX := Has.new w2 [.int .i64 c, .int .i64 0, .int .u64 (mant D (siz W a)), .int .i64 (expo D (siz W a))] 70
      have hB := hB.alloc hB.size (.cells #[.int .i64 c, .int .i64 0, .int .u64 (mant D (siz W a)), .int .i64 (expo D (siz W a))] 70)
      obtain ⟨x0, x1, x2, x3⟩ := hX.c4
      go_wp2_with fail
      refine (Hw.out _).mono ?_
      rintro e w3 ⟨rfl, hb⟩
      have hB := bt hB hb
      have hX := hX.keep hb
      obtain ⟨x0, x1, x2, x3⟩ := hX.c4
      go_wp2
      go_ret3
      exact ⟨rfl, hB⟩
    · skip
      go_enter Tryd.func32, Tryd.ntmps32
      go_wp2_with fail
      refine (layoutOf_c k W D E Hk.out _).mono ?_
      rintro e wa ⟨rfl, hb⟩
      have hB := hb.alloc hb.size (.cells #[.int .i64 W, .int .i64 D, .int .i64 E] 48)
      have hL := Has.new wa [.int .i64 W, .int .i64 D, .int .i64 E] 48
      obtain ⟨l0, l1, l2⟩ := hL.c3
      go_wp2_with fail
      refine (isMode_c mode Hm.out _).mono ?_
      rintro e w1 ⟨rfl, rfl⟩
      go_wp2_with fail
      refine (holds_c W D E a h _).mono ?_
      rintro e w1 ⟨rfl, hb⟩
      have hB := bt hB hb
      have hL := hL.keep hb
      obtain ⟨l0, l1, l2⟩ := hL.c3
      go_wp2_with fail
      refine (Ho.out _).mono ?_
      rintro e w2 ⟨rfl, hb⟩
      have hB := bt hB hb
      have hX := Has.new w2 [.int .i64 c, .int .i64 1, .int .u64 (mant D (siz W a)), .int .i64 (expo D (siz W a))] 70
      have hB := hB.alloc hB.size (.cells #[.int .i64 c, .int .i64 1, .int .u64 (mant D (siz W a)), .int .i64 (expo D (siz W a))] 70)
      obtain ⟨x0, x1, x2, x3⟩ := hX.c4
      go_wp2_with fail
      refine (Hw.out _).mono ?_
      rintro e w3 ⟨rfl, hb⟩
      have hB := bt hB hb
      have hX := hX.keep hb
      obtain ⟨x0, x1, x2, x3⟩ := hX.c4
      go_wp2
      go_ret3
      exact ⟨rfl, hB⟩

set_option maxHeartbeats 2000000 in
theorem ToInt_ok (k W D E mode a s V R : Int) (okb : Bool) (hk : KK k W D E) (hm : Mode mode) (hv : okB W a = true) (hc : cls D (siz W a) ≤ 2) (hs : sgn W a = s) (hV : U64 V)
    (hw : ∀ w, Calls Tryd.prog 84 #[num (cls D (siz W a)) s (mant D (siz W a)) (expo D (siz W a)), .int .i64 mode] w fun e w' => e = .returned (.tuple #[.int .u64 V, .int .i64 R, .bool okb]) ∧ Below w.heap.size w w') (ho : okb = true) (he : V ≤ 9223372036854775807 + s) (w : World) :
    Calls Tryd.prog 32 #[.int .i64 k, .int .i64 mode, .int .i64 a] w fun e w' => e = .returned (.tuple #[.int .i64 (if s = 1 then -V else V), .int .i64 (if R = 0 then 0 else 16), .int .i64 0]) ∧ Below w.heap.size w w' := by
  have h := hk.kl
  have Hk := Lib.hid hk; clear hk
  have Hm := Lib.hid hm; clear hm
  have Ho := Lib.hid (fun w' => open_c W D E a h hv w')
  rw [hs] at Ho
  have hs01 : s = 0 ∨ s = 1 := by have := sgn_s W a; unfold Sgn at this; omega
  have hcn := cls_nn D (siz W a)
  clear hs
  have Hw := Lib.hid hw; clear hw
  have c3 : (cls D (siz W a) == 3) = false := by simp; omega
  have c4 : (cls D (siz W a) == 4) = false := by simp; omega
  obtain ⟨V0, V1⟩ := hV
  clear hc hcn
  generalize cls D (siz W a) = c at *
  subst ho
  rcases hs01 with rfl | rfl
  · have r1 : wrap64 V = V := by unfold wrap64; omega
    have R1 := Lib.hid r1; clear r1
    by_cases z : R = 0
    · subst z
      go_enter Tryd.func32, Tryd.ntmps32
      go_wp2_with fail
      refine (layoutOf_c k W D E Hk.out _).mono ?_
      rintro e wa ⟨rfl, hb⟩
      have hB := hb.alloc hb.size (.cells #[.int .i64 W, .int .i64 D, .int .i64 E] 48)
      have hL := Has.new wa [.int .i64 W, .int .i64 D, .int .i64 E] 48
      obtain ⟨l0, l1, l2⟩ := hL.c3
      go_wp2_with fail
      refine (isMode_c mode Hm.out _).mono ?_
      rintro e w1 ⟨rfl, rfl⟩
      go_wp2_with fail
      refine (holds_c W D E a h _).mono ?_
      rintro e w1 ⟨rfl, hb⟩
      have hB := bt hB hb
      have hL := hL.keep hb
      obtain ⟨l0, l1, l2⟩ := hL.c3
      go_wp2_with fail
      refine (Ho.out _).mono ?_
      rintro e w2 ⟨rfl, hb⟩
      have hB := bt hB hb
      have hX := Has.new w2 [.int .i64 c, .int .i64 0, .int .u64 (mant D (siz W a)), .int .i64 (expo D (siz W a))] 70
      have hB := hB.alloc hB.size (.cells #[.int .i64 c, .int .i64 0, .int .u64 (mant D (siz W a)), .int .i64 (expo D (siz W a))] 70)
      obtain ⟨x0, x1, x2, x3⟩ := hX.c4
      go_wp2_with fail
      refine (Hw.out _).mono ?_
      rintro e w3 ⟨rfl, hb⟩
      have hB := bt hB hb
      have hX := hX.keep hb
      obtain ⟨x0, x1, x2, x3⟩ := hX.c4
      go_wp2
      go_ret3
      exact ⟨Eq.trans (show _ = Ending.returned (.tuple #[.int .i64 (V), .int .i64 0, .int .i64 0]) from rfl) (by simp), hB⟩
    · have zn : (R != 0) = true := by simp [z]
      go_enter Tryd.func32, Tryd.ntmps32
      go_wp2_with fail
      refine (layoutOf_c k W D E Hk.out _).mono ?_
      rintro e wa ⟨rfl, hb⟩
      have hB := hb.alloc hb.size (.cells #[.int .i64 W, .int .i64 D, .int .i64 E] 48)
      have hL := Has.new wa [.int .i64 W, .int .i64 D, .int .i64 E] 48
      obtain ⟨l0, l1, l2⟩ := hL.c3
      go_wp2_with fail
      refine (isMode_c mode Hm.out _).mono ?_
      rintro e w1 ⟨rfl, rfl⟩
      go_wp2_with fail
      refine (holds_c W D E a h _).mono ?_
      rintro e w1 ⟨rfl, hb⟩
      have hB := bt hB hb
      have hL := hL.keep hb
      obtain ⟨l0, l1, l2⟩ := hL.c3
      go_wp2_with fail
      refine (Ho.out _).mono ?_
      rintro e w2 ⟨rfl, hb⟩
      have hB := bt hB hb
      have hX := Has.new w2 [.int .i64 c, .int .i64 0, .int .u64 (mant D (siz W a)), .int .i64 (expo D (siz W a))] 70
      have hB := hB.alloc hB.size (.cells #[.int .i64 c, .int .i64 0, .int .u64 (mant D (siz W a)), .int .i64 (expo D (siz W a))] 70)
      obtain ⟨x0, x1, x2, x3⟩ := hX.c4
      go_wp2_with fail
      refine (Hw.out _).mono ?_
      rintro e w3 ⟨rfl, hb⟩
      have hB := bt hB hb
      have hX := hX.keep hb
      obtain ⟨x0, x1, x2, x3⟩ := hX.c4
      go_wp2
      go_ret3
      exact ⟨Eq.trans (show _ = Ending.returned (.tuple #[.int .i64 (V), .int .i64 16, .int .i64 0]) from rfl) (by simp), hB⟩
  · obtain ⟨B, hBv⟩ : ∃ B, IntKind.u64.wrap (-V) = B := ⟨_, rfl⟩
    have r1 : wrap64 B = -V := by rw [← hBv, IntKind.wrap_u64]; unfold wrap64; omega
    have R1 := Lib.hid r1; clear r1
    by_cases z : R = 0
    · subst z
      go_enter Tryd.func32, Tryd.ntmps32
      go_wp2_with fail
      refine (layoutOf_c k W D E Hk.out _).mono ?_
      rintro e wa ⟨rfl, hb⟩
      have hB := hb.alloc hb.size (.cells #[.int .i64 W, .int .i64 D, .int .i64 E] 48)
      have hL := Has.new wa [.int .i64 W, .int .i64 D, .int .i64 E] 48
      obtain ⟨l0, l1, l2⟩ := hL.c3
      go_wp2_with fail
      refine (isMode_c mode Hm.out _).mono ?_
      rintro e w1 ⟨rfl, rfl⟩
      go_wp2_with fail
      refine (holds_c W D E a h _).mono ?_
      rintro e w1 ⟨rfl, hb⟩
      have hB := bt hB hb
      have hL := hL.keep hb
      obtain ⟨l0, l1, l2⟩ := hL.c3
      go_wp2_with fail
      refine (Ho.out _).mono ?_
      rintro e w2 ⟨rfl, hb⟩
      have hB := bt hB hb
      have hX := Has.new w2 [.int .i64 c, .int .i64 1, .int .u64 (mant D (siz W a)), .int .i64 (expo D (siz W a))] 70
      have hB := hB.alloc hB.size (.cells #[.int .i64 c, .int .i64 1, .int .u64 (mant D (siz W a)), .int .i64 (expo D (siz W a))] 70)
      obtain ⟨x0, x1, x2, x3⟩ := hX.c4
      go_wp2_with fail
      refine (Hw.out _).mono ?_
      rintro e w3 ⟨rfl, hb⟩
      have hB := bt hB hb
      have hX := hX.keep hb
      obtain ⟨x0, x1, x2, x3⟩ := hX.c4
      go_wp2
      go_ret3
      exact ⟨Eq.trans (show _ = Ending.returned (.tuple #[.int .i64 (wrap64 B), .int .i64 0, .int .i64 0]) from rfl) (by rw [R1.out]; first | done | simp), hB⟩
    · have zn : (R != 0) = true := by simp [z]
      go_enter Tryd.func32, Tryd.ntmps32
      go_wp2_with fail
      refine (layoutOf_c k W D E Hk.out _).mono ?_
      rintro e wa ⟨rfl, hb⟩
      have hB := hb.alloc hb.size (.cells #[.int .i64 W, .int .i64 D, .int .i64 E] 48)
      have hL := Has.new wa [.int .i64 W, .int .i64 D, .int .i64 E] 48
      obtain ⟨l0, l1, l2⟩ := hL.c3
      go_wp2_with fail
      refine (isMode_c mode Hm.out _).mono ?_
      rintro e w1 ⟨rfl, rfl⟩
      go_wp2_with fail
      refine (holds_c W D E a h _).mono ?_
      rintro e w1 ⟨rfl, hb⟩
      have hB := bt hB hb
      have hL := hL.keep hb
      obtain ⟨l0, l1, l2⟩ := hL.c3
      go_wp2_with fail
      refine (Ho.out _).mono ?_
      rintro e w2 ⟨rfl, hb⟩
      have hB := bt hB hb
      have hX := Has.new w2 [.int .i64 c, .int .i64 1, .int .u64 (mant D (siz W a)), .int .i64 (expo D (siz W a))] 70
      have hB := hB.alloc hB.size (.cells #[.int .i64 c, .int .i64 1, .int .u64 (mant D (siz W a)), .int .i64 (expo D (siz W a))] 70)
      obtain ⟨x0, x1, x2, x3⟩ := hX.c4
      go_wp2_with fail
      refine (Hw.out _).mono ?_
      rintro e w3 ⟨rfl, hb⟩
      have hB := bt hB hb
      have hX := hX.keep hb
      obtain ⟨x0, x1, x2, x3⟩ := hX.c4
      go_wp2
      go_ret3
      exact ⟨Eq.trans (show _ = Ending.returned (.tuple #[.int .i64 (wrap64 B), .int .i64 16, .int .i64 0]) from rfl) (by rw [R1.out]; first | done | simp [z]), hB⟩
end Go.Proofs.YtfdenbgmogojeaaDoor
