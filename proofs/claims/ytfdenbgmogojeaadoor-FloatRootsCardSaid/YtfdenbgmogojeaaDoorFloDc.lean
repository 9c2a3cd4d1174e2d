/- The mathematics of sums: the exact sum that the document rounds, at whichever common exponent, is the code's sum. No program; conditions as written at each lemma. -/
import Derived.Test.YtfdenbgmogojeaaDoorFloSb
import Derived.Test.YtfdenbgmogojeaaDoorFloCv
import Derived.Test.YtfdenbgmogojeaaDoorFloP
import Derived.Test.YtfdenbgmogojeaaDoorFloS
import Derived.Test.YtfdenbgmogojeaaDoorRefB
namespace Go.Proofs.YtfdenbgmogojeaaDoor
open Go.RowKit

/-- What the operations do not take. -/
def BadTwo (k mode a b : Int) : Prop := NoK k ∨ ∃ W D E, KK k W D E ∧ (¬ Mode mode ∨ (Mode mode ∧ (okB W a = false ∨ (okB W a = true ∧ okB W b = false))))

set_option maxHeartbeats 2000000 in
theorem two_bad (k mode a b : Int) (f : Nat) (hbad : BadTwo k mode a b) (w : World) :
    Calls Tryd.prog 49 #[.int .i64 k, .int .i64 mode, .int .i64 a, .int .i64 b, .func (.func f) #[] #[]] w fun e w' => e = .returned (.tuple #[.int .i64 0, .int .i64 0, .int .i64 2]) ∧ Below w.heap.size w w' := by
  rcases hbad with ⟨h2, h4, h8⟩ | ⟨W, D, E, hk, hbad⟩
  · go_enter Tryd.func49, Tryd.ntmps49
    go_wp2_with fail
    refine (layoutOf_no k h2 h4 h8 _).mono ?_
    rintro e w1 ⟨rfl, hb⟩
    have hB := hb.alloc hb.size (.cells #[.int .i64 0, .int .i64 0, .int .i64 0] 48)
    go_wp2
    go_ret3
    exact ⟨rfl, hB⟩
  · have h := hk.kl
    have Hk := Lib.hid hk; clear hk
    rcases hbad with hm | ⟨hm, ha | ⟨ha, hb'⟩⟩
    · have Hm := Lib.hid hm; clear hm
      go_enter Tryd.func49, Tryd.ntmps49
      go_wp2_with fail
      refine (layoutOf_c k W D E Hk.out _).mono ?_
      rintro e wa ⟨rfl, hb⟩
      have hB := hb.alloc hb.size (.cells #[.int .i64 W, .int .i64 D, .int .i64 E] 48)
      have hL := Has.new wa [.int .i64 W, .int .i64 D, .int .i64 E] 48
      go_wp2_with fail
      refine (isMode_no mode Hm.out _).mono ?_
      rintro e w1 ⟨rfl, rfl⟩
      go_wp2
      go_ret3
      exact ⟨rfl, hB⟩
    · have Hm := Lib.hid hm; clear hm
      go_enter Tryd.func49, Tryd.ntmps49
      go_wp2_with fail
      refine (layoutOf_c k W D E Hk.out _).mono ?_
      rintro e wa ⟨rfl, hb⟩
      have hB := hb.alloc hb.size (.cells #[.int .i64 W, .int .i64 D, .int .i64 E] 48)
      have hL := Has.new wa [.int .i64 W, .int .i64 D, .int .i64 E] 48
      go_wp2_with fail
      refine (isMode_c mode Hm.out _).mono ?_
      rintro e w1 ⟨rfl, rfl⟩
      go_wp2_with fail
      refine (holds_c W D E a h _).mono ?_
      rintro e w1 ⟨rfl, hb⟩
      have hB := bt hB hb
      have hL := hL.keep hb
      obtain ⟨l0, l1, l2⟩ := hL.c3
      go_wp2
      go_ret3
      exact ⟨rfl, hB⟩
    · have Hm := Lib.hid hm; clear hm
      go_enter Tryd.func49, Tryd.ntmps49
      go_wp2_with fail
      refine (layoutOf_c k W D E Hk.out _).mono ?_
      rintro e wa ⟨rfl, hb⟩
      have hB := hb.alloc hb.size (.cells #[.int .i64 W, .int .i64 D, .int .i64 E] 48)
      have hL := Has.new wa [.int .i64 W, .int .i64 D, .int .i64 E] 48
      go_wp2_with fail
      refine (isMode_c mode Hm.out _).mono ?_
      rintro e w1 ⟨rfl, rfl⟩
      go_wp2_with fail
      refine (holds_c W D E a h _).mono ?_
      rintro e w1 ⟨rfl, hb⟩
      have hB := bt hB hb
      have hL := hL.keep hb
      obtain ⟨l0, l1, l2⟩ := hL.c3
      go_wp2_with fail
      refine (holds_c W D E b h _).mono ?_
      rintro e w1 ⟨rfl, hb⟩
      have hB := bt hB hb
      go_wp2
      go_ret3
      exact ⟨rfl, hB⟩

theorem Add_bad (k mode a b : Int) (hbad : BadTwo k mode a b) (w : World) :
    Calls Tryd.prog 15 #[.int .i64 k, .int .i64 mode, .int .i64 a, .int .i64 b] w fun e w' => e = .returned (.tuple #[.int .i64 0, .int .i64 0, .int .i64 2]) ∧ Below w.heap.size w w' := by
  have H := Lib.hid (two_bad k mode a b 50 hbad)
  clear hbad
  go_enter Tryd.func15, Tryd.ntmps15
  go_wp2_with fail
  refine (H.out _).mono ?_
  rintro e w1 ⟨rfl, hb⟩
  go_wp2
  go_ret3
  exact ⟨rfl, hb⟩

theorem Sub_bad (k mode a b : Int) (hbad : BadTwo k mode a b) (w : World) :
    Calls Tryd.prog 17 #[.int .i64 k, .int .i64 mode, .int .i64 a, .int .i64 b] w fun e w' => e = .returned (.tuple #[.int .i64 0, .int .i64 0, .int .i64 2]) ∧ Below w.heap.size w w' := by
  have H := Lib.hid (two_bad k mode a b 61 hbad)
  clear hbad
  go_enter Tryd.func17, Tryd.ntmps17
  go_wp2_with fail
  refine (H.out _).mono ?_
  rintro e w1 ⟨rfl, hb⟩
  go_wp2
  go_ret3
  exact ⟨rfl, hb⟩
end Go.Proofs.YtfdenbgmogojeaaDoor

namespace Go.Proofs.YtfdenbgmogojeaaDoor
open Go Go.RowKit

theorem cut_join (N r i j : Nat) (hr : r < 2 ^ i) : (N * 2 ^ i + r) / 2 ^ (i + j) = N / 2 ^ j ∧ (N * 2 ^ i + r) % 2 ^ (i + j) = 2 ^ i * (N % 2 ^ j) + r := by
  have hp := Nat.two_pow_pos i
  have e1 : (N * 2 ^ i + r) / 2 ^ i = N := by
    rw [Nat.mul_comm, Nat.mul_add_div hp, Nat.div_eq_of_lt hr, Nat.add_zero]
  have e2 : (N * 2 ^ i + r) % 2 ^ i = r := by
    rw [Nat.mul_comm, Nat.mul_add_mod, Nat.mod_eq_of_lt hr]
  constructor
  · rw [Nat.pow_add, ← Nat.div_div_eq_div_mul, e1]
  · rw [Nat.pow_add, Nat.mod_mul, e1, e2, Nat.add_comm]
theorem bl_join (N r i : Nat) (hN : N ≠ 0) (hr : r < 2 ^ i) : bl (N * 2 ^ i + r) = i + bl N := by
  have hp := Nat.two_pow_pos i
  have h1 : 2 ^ i ≤ N * 2 ^ i := Nat.le_mul_of_pos_left _ (by omega)
  have h := (cut_join N r i 0 hr).1
  rw [Nat.add_zero, Nat.pow_zero, Nat.div_one] at h
  rw [bl_shr _ i (by omega), h]
theorem cutR_join (N r i : Nat) (more : Bool) (k : Int) (hr : r < 2 ^ i) (hk : 0 < k) : cutR (N * 2 ^ i + r) more (k + i) = cutR N (more || decide (r ≠ 0)) k := by
  have hp := Nat.two_pow_pos i
  obtain ⟨j, hj⟩ : ∃ j : Nat, k = (j : Int) + 1 := ⟨(k - 1).toNat, by omega⟩
  subst hj
  unfold cutR lostB
  have q1 : ¬ ((j : Int) + 1 + i ≤ 0) := by omega
  have q2 : ¬ ((j : Int) + 1 ≤ 0) := by omega
  rw [if_neg q1, if_neg q2, show ((j : Int) + 1 + i - 1).toNat = i + j by omega, show ((j : Int) + 1 - 1).toNat = j by omega, (cut_join N r i j hr).1, (cut_join N r i j hr).2]
  have hz : (2 ^ i * (N % 2 ^ j) + r ≠ 0) ↔ (N % 2 ^ j ≠ 0 ∨ r ≠ 0) := by
    constructor
    · intro h
      by_cases c : N % 2 ^ j = 0
      · right; intro e; rw [c, e] at h; simp at h
      · exact .inl c
    · intro h e
      have h1 : 2 ^ i * (N % 2 ^ j) = 0 := by omega
      have h2 : r = 0 := by omega
      rcases Nat.mul_eq_zero.1 h1 with q | q
      · omega
      · rcases h with u | u
        · exact u q
        · exact u h2
  have hb : decide (2 ^ i * (N % 2 ^ j) + r ≠ 0) = (decide (N % 2 ^ j ≠ 0) || decide (r ≠ 0)) := by
    rw [Bool.eq_iff_iff]; simp only [decide_eq_true_eq, Bool.or_eq_true]; exact hz
  rw [hb]
  cases more <;> cases hd : decide (N % 2 ^ j ≠ 0) <;> cases hq : decide (r ≠ 0) <;> simp
/-- A number without its lowest digits, and more, rounds as the number. -/
theorem round_join (W D mode s : Int) (N r i : Nat) (e : Int) (more : Bool) (hN : N ≠ 0) (hr : r < 2 ^ i) (hk : 0 < lastF D N (e + i) - (e + i)) :
    roundF W D mode s (N * 2 ^ i + r) e more = roundF W D mode s N (e + i) (more || decide (r ≠ 0)) := by
  have hbl : e + (bl (N * 2 ^ i + r) : Int) = e + i + (bl N : Int) := by rw [bl_join N r i hN hr]; omega
  have hlast : lastF D (N * 2 ^ i + r) e = lastF D N (e + i) := by unfold lastF; rw [hbl]
  obtain ⟨k, hkd⟩ : ∃ k, k = lastF D N (e + i) - (e + i) := ⟨_, rfl⟩
  rw [← hkd] at hk
  have hke : lastF D N (e + i) - e = k + i := by omega
  have hkept : keptF D (N * 2 ^ i + r) e = keptF D N (e + i) := by
    unfold keptF
    rw [hlast, hke, ← hkd]
    unfold cutK
    rw [if_neg (by omega), if_neg (by omega), show (k + i).toNat = i + k.toNat by omega, (cut_join N r i k.toNat hr).1]
  have hrest : restF D (N * 2 ^ i + r) e more = restF D N (e + i) (more || decide (r ≠ 0)) := by
    unfold restF
    rw [hlast, hke, ← hkd, cutR_join N r i more k hr hk]
  have hm : mF D mode s (N * 2 ^ i + r) e more = mF D mode s N (e + i) (more || decide (r ≠ 0)) := by unfold mF; rw [hkept, hrest]
  have hs : sizeF D mode s (N * 2 ^ i + r) e more = sizeF D mode s N (e + i) (more || decide (r ≠ 0)) := by unfold sizeF; rw [hlast, hm]
  have hf : flagF D (N * 2 ^ i + r) e more = flagF D N (e + i) (more || decide (r ≠ 0)) := by unfold flagF; rw [hrest, hbl]
  unfold roundF
  rw [hs, hf]
/-- A number with zeros behind it, its exponent less by as many, rounds as the number. -/
theorem round_shift (W D mode s : Int) (N i : Nat) (e : Int) (hN : N ≠ 0) :
    roundF W D mode s (N * 2 ^ i) e false = roundF W D mode s N (e + i) false := by
  have hp := Nat.two_pow_pos i
  by_cases hk : 0 < lastF D N (e + i) - (e + i)
  · have h := round_join W D mode s N 0 i e false hN hp hk
    simpa using h
  · have hbl : e + (bl (N * 2 ^ i) : Int) = e + i + (bl N : Int) := by
      have := bl_join N 0 i hN hp
      rw [Nat.add_zero] at this; rw [this]; omega
    have hlast : lastF D (N * 2 ^ i) e = lastF D N (e + i) := by unfold lastF; rw [hbl]
    obtain ⟨k, hkd⟩ : ∃ k, k = lastF D N (e + i) - (e + i) := ⟨_, rfl⟩
    rw [← hkd] at hk
    have hke : lastF D N (e + i) - e = k + i := by omega
    have hr2 : restF D N (e + i) false = 0 := by unfold restF cutR; rw [← hkd, if_pos (by omega)]
    have hk2 : keptF D N (e + i) = ((N * 2 ^ (-k).toNat : Nat) : Int) := by unfold keptF cutK; rw [← hkd, if_pos (by omega)]
    have hboth : keptF D (N * 2 ^ i) e = keptF D N (e + i) ∧ restF D (N * 2 ^ i) e false = restF D N (e + i) false := by
      rw [hr2, hk2]
      unfold keptF restF
      rw [hlast, hke]
      by_cases c : k + i ≤ 0
      · unfold cutK cutR
        rw [if_pos c, if_pos c]
        refine ⟨?_, rfl⟩
        rw [Nat.mul_assoc, ← Nat.pow_add, show i + (-(k + i)).toNat = (-k).toNat by omega]
      · obtain ⟨t, ht⟩ : ∃ t : Nat, k + i = (t : Int) := ⟨(k + i).toNat, by omega⟩
        have hi : i = (-k).toNat + t := by omega
        have hdiv : ∀ u, u ≤ t → N * 2 ^ i = 2 ^ u * (N * 2 ^ (i - u)) := fun u hu => by
          rw [Nat.mul_left_comm, ← Nat.pow_add, show u + (i - u) = i by omega]
        unfold cutK cutR lostB
        rw [if_neg c, if_neg c, ht, Int.toNat_natCast]
        obtain ⟨u, hu⟩ : ∃ u, t = u + 1 := ⟨t - 1, by omega⟩
        refine ⟨?_, ?_⟩
        · rw [hdiv t (Nat.le_refl _), Nat.mul_div_cancel_left _ (Nat.two_pow_pos t), show i - t = (-k).toNat by omega]
        · rw [show ((t : Int) - 1).toNat = u by omega, hdiv u (by omega), Nat.mul_div_cancel_left _ (Nat.two_pow_pos u), Nat.mul_mod_right]
          have he : N * 2 ^ (i - u) % 2 = 0 := by
            rw [show i - u = (i - u - 1) + 1 by omega, Nat.pow_succ, ← Nat.mul_assoc, Nat.mul_mod_left]
          rw [he]; simp
    have hm : mF D mode s (N * 2 ^ i) e false = mF D mode s N (e + i) false := by unfold mF; rw [hboth.1, hboth.2]
    have hs : sizeF D mode s (N * 2 ^ i) e false = sizeF D mode s N (e + i) false := by unfold sizeF; rw [hlast, hm]
    have hf : flagF D (N * 2 ^ i) e false = flagF D N (e + i) false := by unfold flagF; rw [hboth.2, hbl]
    unfold roundF
    rw [hs, hf]
end Go.Proofs.YtfdenbgmogojeaaDoor

namespace Go.Proofs.YtfdenbgmogojeaaDoor
open Go Go.RowKit

/-- The exact sum of X * 2^d and Y with their signs: its size and its sign. -/
def exN (xs : Int) (X : Nat) (ys : Int) (Y d : Nat) : Nat := if xs = ys then X * 2 ^ d + Y else if X * 2 ^ d < Y then Y - X * 2 ^ d else X * 2 ^ d - Y
def exS (xs : Int) (X : Nat) (ys : Int) (Y d : Nat) : Int := if xs = ys then xs else if X * 2 ^ d < Y then ys else xs

theorem nn0 (Y : Nat) : nn (Y : Int) 0 = Y * 2 ^ 64 := by unfold nn; omega
theorem near_sum (xs : Int) (X : Nat) (ys : Int) (Y d : Nat) (hd : d ≤ 64) (ho : d = 0 ∨ Y / 2 ^ d < X) :
    sumN xs X ys Y d = exN xs X ys Y d * 2 ^ (64 - d) ∧ sumS xs X ys Y d = exS xs X ys Y d ∧ lostB (nn (Y : Int) 0) d = false := by
  have hp := Nat.two_pow_pos d
  have hq := Nat.two_pow_pos (64 - d)
  have e64 : (2 : Nat) ^ 64 = 2 ^ d * 2 ^ (64 - d) := by rw [← Nat.pow_add]; congr 1; omega
  have e1 : nn (Y : Int) 0 / 2 ^ d = Y * 2 ^ (64 - d) := by
    rw [nn0, e64, Nat.mul_left_comm, Nat.mul_div_cancel_left _ hp]
  have e2 : nn (Y : Int) 0 % 2 ^ d = 0 := by rw [nn0, e64, Nat.mul_left_comm, Nat.mul_mod_right]
  have eh : hiP (Y * 2 ^ (64 - d)) = ((Y / 2 ^ d : Nat) : Int) := by
    unfold hiP
    have : Y * 2 ^ (64 - d) / 18446744073709551616 = Y / 2 ^ d := by
      rw [show (18446744073709551616 : Nat) = 2 ^ d * 2 ^ (64 - d) from e64, Nat.mul_comm (2 ^ d), ← Nat.div_div_eq_div_mul, Nat.mul_div_cancel _ hq]
    rw [this]
  have hl : lostB (nn (Y : Int) 0) d = false := by unfold lostB; rw [e2]; rfl
  have hX : X * 18446744073709551616 = X * 2 ^ d * 2 ^ (64 - d) := by rw [Nat.mul_assoc, ← e64]
  unfold sumN sumS exN exS
  rw [hl, e1, eh]
  simp only [Int.toNat_natCast, Bool.false_eq_true, if_false, Nat.sub_zero]
  rw [hX]
  by_cases hs : xs = ys
  · rw [if_pos hs, if_pos hs, if_pos hs, if_pos hs, Nat.add_mul]
    exact ⟨rfl, rfl, trivial⟩
  · rw [if_neg hs, if_neg hs, if_neg hs, if_neg hs]
    by_cases c : X * 2 ^ d < Y
    · have hd0 : d = 0 := by
        rcases ho with q | q
        · exact q
        · rw [Nat.div_lt_iff_lt_mul hp] at q; omega
      subst hd0
      rw [Nat.pow_zero, Nat.mul_one] at c ⊢
      rw [Nat.div_one, if_pos (by omega), if_pos c, if_pos (by omega), if_pos c]
      exact ⟨rfl, rfl, trivial⟩
    · have hn : ¬ ((X : Int) < ((Y / 2 ^ d : Nat) : Int)) := by
        intro q
        have h1 : X < Y / 2 ^ d := by omega
        have h2 : X * 2 ^ d < Y := by
          have := (Nat.le_div_iff_mul_le hp).1 (show X + 1 ≤ Y / 2 ^ d by omega)
          rw [Nat.add_mul] at this; omega
        exact c h2
      rw [if_neg hn, if_neg c, if_neg hn, if_neg c, Nat.sub_mul]
      exact ⟨rfl, rfl, trivial⟩

theorem far_sum (xs : Int) (X : Nat) (ys : Int) (Y d i : Nat) (hd : d = 64 + i) (hX : 0 < X) (hY : Y < 18014398509481984) :
    ∃ r, r < 2 ^ i ∧ exN xs X ys Y d = sumN xs X ys Y d * 2 ^ i + r ∧ sumS xs X ys Y d = exS xs X ys Y d ∧ lostB (nn (Y : Int) 0) d = decide (r ≠ 0) ∧ X * 18446744073709551616 ≤ sumN xs X ys Y d + 18014398509481984 := by
  have hp := Nat.two_pow_pos i
  have e64 : (2 : Nat) ^ 64 = 18446744073709551616 := by decide
  have e1 : nn (Y : Int) 0 / 2 ^ d = Y / 2 ^ i := by
    rw [nn0, hd, Nat.pow_add, Nat.mul_comm Y, Nat.mul_div_mul_left _ _ (Nat.two_pow_pos 64)]
  have e2 : nn (Y : Int) 0 % 2 ^ d = 2 ^ 64 * (Y % 2 ^ i) := by
    rw [nn0, hd, Nat.pow_add, Nat.mul_comm Y, Nat.mul_mod_mul_left]
  obtain ⟨q, hq⟩ : ∃ q, q = Y / 2 ^ i := ⟨_, rfl⟩
  obtain ⟨r, hr⟩ : ∃ r, r = Y % 2 ^ i := ⟨_, rfl⟩
  have hY2 : Y = q * 2 ^ i + r := by rw [hq, hr, Nat.mul_comm, Nat.div_add_mod]
  have hqY : q ≤ Y := by rw [hq]; exact Nat.div_le_self _ _
  have hrl : r < 2 ^ i := by rw [hr]; exact Nat.mod_lt _ hp
  have hl : lostB (nn (Y : Int) 0) d = decide (r ≠ 0) := by
    unfold lostB
    rw [e2, ← hr, Bool.eq_iff_iff]; simp only [decide_eq_true_eq, ne_eq]
    constructor
    · intro h1 h2; apply h1; rw [h2]
    · intro h1 h2
      rcases Nat.mul_eq_zero.1 h2 with h3 | h3
      · have := Nat.two_pow_pos 64; omega
      · exact h1 h3
  have eh : hiP q = 0 := by unfold hiP; rw [Nat.div_eq_of_lt (by omega)]; rfl
  have hXd : X * 2 ^ d = X * 18446744073709551616 * 2 ^ i := by rw [hd, Nat.pow_add, e64, Nat.mul_assoc]
  have hle : q * 2 ^ i + r < X * 18446744073709551616 * 2 ^ i := by
    rw [← hY2]
    calc Y < 18446744073709551616 * 1 := by omega
      _ ≤ X * 18446744073709551616 * 2 ^ i := by
        rw [Nat.mul_comm X]
        exact Nat.mul_le_mul (Nat.le_mul_of_pos_right _ hX) hp
  have hneg : ¬ X * 2 ^ d < Y := by rw [hXd, hY2]; omega
  have hne : ¬ ((X : Int) < 0) := by omega
  unfold sumN sumS exN exS
  rw [hl, e1, ← hq, eh, hXd]
  rw [hXd] at hneg
  simp only [Int.toNat_natCast]
  by_cases hs : xs = ys
  · rw [if_pos hs, if_pos hs, if_pos hs, if_pos hs]
    refine ⟨r, hrl, ?_, rfl, rfl, by omega⟩
    rw [Nat.add_mul]; omega
  · rw [if_neg hs, if_neg hs, if_neg hs, if_neg hs, if_neg hneg, if_neg hne, if_neg hne, if_neg hneg]
    have hqX : q < X * 18446744073709551616 := by omega
    by_cases h0 : r = 0
    · refine ⟨0, hp, ?_, rfl, by rw [h0], ?_⟩
      · rw [h0, hY2, h0]; simp [Nat.sub_mul]
      · rw [h0]; simp; omega
    · refine ⟨2 ^ i - r, by omega, ?_, rfl, ?_, ?_⟩
      · have hd1 : decide (r ≠ 0) = true := by simp [h0]
        rw [hd1, if_pos rfl, hY2]
        have h1 : (X * 18446744073709551616 - q - 1) * 2 ^ i = X * 18446744073709551616 * 2 ^ i - q * 2 ^ i - 2 ^ i := by
          rw [Nat.sub_mul, Nat.sub_mul, Nat.one_mul]
        rw [h1]
        have h2 : q * 2 ^ i + 2 ^ i ≤ X * 18446744073709551616 * 2 ^ i := by
          have := Nat.mul_le_mul_right (2 ^ i) (show q + 1 ≤ X * 18446744073709551616 by omega)
          rw [Nat.add_mul, Nat.one_mul] at this; exact this
        omega
      · rw [Bool.eq_iff_iff]; simp only [decide_eq_true_eq, ne_eq]; omega
      · have hd1 : decide (r ≠ 0) = true := by simp [h0]
        rw [hd1, if_pos rfl]; omega

/-- The code's sum, the greater exponent ahead, rounds as the exact one. -/
theorem sum_round (W D E mode : Int) (h : KL W D E) (xs : Int) (X : Nat) (ys : Int) (Y d : Nat) (e : Int) (ho : d = 0 ∨ Y / 2 ^ d < X) (hY : Y < 18014398509481984) (hX : 0 < d → hid D ≤ (X : Int)) :
    (sumN xs X ys Y d = 0 ↔ exN xs X ys Y d = 0) ∧ (sumN xs X ys Y d ≠ 0 → roundF W D mode (sumS xs X ys Y d) (sumN xs X ys Y d) (e - 64) (lostB (nn (Y : Int) 0) d) = roundF W D mode (exS xs X ys Y d) (exN xs X ys Y d) (e - d) false) := by
  by_cases hd : d ≤ 64
  · obtain ⟨h1, h2, h3⟩ := near_sum xs X ys Y d hd ho
    have hq := Nat.two_pow_pos (64 - d)
    rw [h1, h2, h3]
    refine ⟨?_, fun hn => ?_⟩
    · constructor
      · intro q; rcases Nat.mul_eq_zero.1 q with q | q <;> omega
      · intro q; rw [q, Nat.zero_mul]
    · have hn' : exN xs X ys Y d ≠ 0 := fun q => hn (by rw [q, Nat.zero_mul])
      rw [round_shift W D mode _ _ _ _ hn', show e - 64 + ((64 - d : Nat) : Int) = e - d by omega]
  · obtain ⟨i, hi⟩ : ∃ i, d = 64 + i := ⟨d - 64, by omega⟩
    have hb := hid_pow W D E h
    have hid0 : 1024 ≤ hid D := by rcases h with ⟨_, rfl, _⟩ | ⟨_, rfl, _⟩ | ⟨_, rfl, _⟩ <;> decide
    have hXd := hX (by omega)
    obtain ⟨r, hr, h1, h2, h3, h4⟩ := far_sum xs X ys Y d i hi (by omega) hY
    have hn0 : sumN xs X ys Y d ≠ 0 := by omega
    have hp := Nat.two_pow_pos i
    refine ⟨?_, fun _ => ?_⟩
    · rw [h1]
      constructor
      · intro q; exact absurd q hn0
      · intro q
        have q1 : sumN xs X ys Y d * 2 ^ i = 0 := by omega
        rcases Nat.mul_eq_zero.1 q1 with q2 | q2 <;> omega
    · have hbl : (bl (sumN xs X ys Y d) : Int) > D := by
        have hge : 2 ^ D.toNat ≤ sumN xs X ys Y d := by
          rw [hb.2.1]
          have := hb.1
          have : (2 ^ (D.toNat - 1) : Nat) ≤ X := by omega
          omega
        have hlt := bl_lt (sumN xs X ys Y d)
        have := (Nat.pow_lt_pow_iff_right (by decide : 1 < 2)).1 (Nat.lt_of_le_of_lt hge hlt)
        omega
      have hk : 0 < lastF D (sumN xs X ys Y d) (e - d + i) - (e - d + i) := by unfold lastF; omega
      have hj := round_join W D mode (exS xs X ys Y d) (sumN xs X ys Y d) r i (e - d) false hn0 hr hk
      rw [h1, hj, h2, h3, show e - d + (i : Int) = e - 64 by omega, Bool.false_or]
end Go.Proofs.YtfdenbgmogojeaaDoor

namespace Go.Proofs.YtfdenbgmogojeaaDoor
open Go Go.RowKit

/-- The document's sum of two finite floats. -/
def docN (sx : Int) (m : Nat) (sy : Int) (n : Nat) : Nat := if sx = sy then m + n else if m < n then n - m else m - n
def docS (sx : Int) (m : Nat) (sy : Int) (n : Nat) : Int := if sx = sy then sx else if m < n then sy else sx
def docF (W D mode sx : Int) (m : Nat) (sy : Int) (n : Nat) (lo : Int) : Int × Int :=
  if docN sx m sy n = 0 then (jn W (if mode = 2 then 1 else 0) 0, 0) else roundF W D mode (docS sx m sy n) (docN sx m sy n) lo false

theorem docN_scale (sx : Int) (m : Nat) (sy : Int) (n i : Nat) : docN sx (m * 2 ^ i) sy (n * 2 ^ i) = docN sx m sy n * 2 ^ i := by
  unfold docN
  have hp := Nat.two_pow_pos i
  by_cases h : sx = sy
  · rw [if_pos h, if_pos h, Nat.add_mul]
  · rw [if_neg h, if_neg h]
    by_cases c : m < n
    · rw [if_pos c, if_pos ((Nat.mul_lt_mul_right hp).2 c), Nat.sub_mul]
    · rw [if_neg c, if_neg (fun q => c ((Nat.mul_lt_mul_right hp).1 q)), Nat.sub_mul]
theorem docS_scale (sx : Int) (m : Nat) (sy : Int) (n i : Nat) : docS sx (m * 2 ^ i) sy (n * 2 ^ i) = docS sx m sy n := by
  unfold docS
  have hp := Nat.two_pow_pos i
  by_cases c : m < n
  · rw [if_pos c, if_pos ((Nat.mul_lt_mul_right hp).2 c)]
  · rw [if_neg c, if_neg (fun q => c ((Nat.mul_lt_mul_right hp).1 q))]
theorem docF_scale (W D mode sx : Int) (m : Nat) (sy : Int) (n i : Nat) (lo : Int) : docF W D mode sx (m * 2 ^ i) sy (n * 2 ^ i) lo = docF W D mode sx m sy n (lo + i) := by
  unfold docF
  rw [docN_scale, docS_scale]
  have hp := Nat.two_pow_pos i
  by_cases h : docN sx m sy n = 0
  · rw [if_pos (by rw [h, Nat.zero_mul]), if_pos h]
  · rw [if_neg (fun q => by rcases Nat.mul_eq_zero.1 q with q | q <;> omega), if_neg h, round_shift W D mode _ _ _ _ h]
theorem docF_swap (W D mode sx : Int) (m : Nat) (sy : Int) (n : Nat) (lo : Int) : docF W D mode sx m sy n lo = docF W D mode sy n sx m lo := by
  unfold docF docN docS
  by_cases h : sx = sy
  · subst h
    rw [if_pos rfl, if_pos rfl, if_pos rfl, if_pos rfl, Nat.add_comm]
  · have h' : ¬ sy = sx := fun q => h q.symm
    rw [if_neg h, if_neg h', if_neg h, if_neg h']
    rcases Nat.lt_trichotomy m n with c | c | c
    · have c' : ¬ n < m := by omega
      simp only [if_pos c, if_neg c']
    · subst c
      simp only [Nat.lt_irrefl, if_false, Nat.sub_self, if_true]
    · have c' : ¬ m < n := by omega
      simp only [if_pos c, if_neg c']

/-- At a common exponent. -/
def atF (W D mode sx : Int) (X : Nat) (ex sy : Int) (Y : Nat) (ey lo : Int) : Int × Int := docF W D mode sx (X * 2 ^ (ex - lo).toNat) sy (Y * 2 ^ (ey - lo).toNat) lo
theorem atF_lower (W D mode sx : Int) (X : Nat) (ex sy : Int) (Y : Nat) (ey lo L : Int) (h1 : lo ≤ ex) (h2 : lo ≤ ey) (hL : L ≤ lo) : atF W D mode sx X ex sy Y ey L = atF W D mode sx X ex sy Y ey lo := by
  unfold atF
  rw [show (ex - L).toNat = (ex - lo).toNat + (lo - L).toNat by omega, show (ey - L).toNat = (ey - lo).toNat + (lo - L).toNat by omega, Nat.pow_add, Nat.pow_add, ← Nat.mul_assoc, ← Nat.mul_assoc, docF_scale, show L + ((lo - L).toNat : Int) = lo by omega]
theorem atF_same (W D mode sx : Int) (X : Nat) (ex ex' sy : Int) (Y : Nat) (ey ey' L : Int) (h1 : X ≠ 0 → ex = ex') (h2 : Y ≠ 0 → ey = ey') : atF W D mode sx X ex sy Y ey L = atF W D mode sx X ex' sy Y ey' L := by
  unfold atF
  have e1 : X * 2 ^ (ex - L).toNat = X * 2 ^ (ex' - L).toNat := by
    by_cases c : X = 0
    · rw [c, Nat.zero_mul, Nat.zero_mul]
    · rw [h1 c]
  have e2 : Y * 2 ^ (ey - L).toNat = Y * 2 ^ (ey' - L).toNat := by
    by_cases c : Y = 0
    · rw [c, Nat.zero_mul, Nat.zero_mul]
    · rw [h2 c]
  rw [e1, e2]
/-- Of zeros the exponent is all the same. -/
theorem atF_any (W D mode sx : Int) (X : Nat) (ex ex' sy : Int) (Y : Nat) (ey ey' : Int) (h1 : X ≠ 0 → ex = ex') (h2 : Y ≠ 0 → ey = ey') : atF W D mode sx X ex sy Y ey (min ex ey) = atF W D mode sx X ex' sy Y ey' (min ex' ey') := by
  rw [← atF_lower W D mode sx X ex sy Y ey (min ex ey) (min (min ex ey) (min ex' ey')) (by omega) (by omega) (by omega), ← atF_lower W D mode sx X ex' sy Y ey' (min ex' ey') (min (min ex ey) (min ex' ey')) (by omega) (by omega) (by omega)]
  exact atF_same W D mode sx X ex ex' sy Y ey ey' _ h1 h2

theorem one_sum (W D E mode : Int) (h : KL W D E) (xs : Int) (X : Nat) (ys : Int) (Y d : Nat) (e : Int) (ho : d = 0 ∨ Y / 2 ^ d < X) (hY : Y < 18014398509481984) (hX : 0 < d → hid D ≤ (X : Int)) (hz : xs = ys → ¬ (X = 0 ∧ Y = 0)) :
    (if sumN xs X ys Y d = 0 then (if xs = ys then (jn W xs 0, 0) else if mode = 2 then (jn W 1 0, 0) else (jn W 0 0, 0)) else roundF W D mode (sumS xs X ys Y d) (sumN xs X ys Y d) (e - 64) (lostB (nn (Y : Int) 0) d)) = docF W D mode xs (X * 2 ^ d) ys Y (e - d) := by
  obtain ⟨h1, h2⟩ := sum_round W D E mode h xs X ys Y d e ho hY hX
  have e1 : docN xs (X * 2 ^ d) ys Y = exN xs X ys Y d := rfl
  have e2 : docS xs (X * 2 ^ d) ys Y = exS xs X ys Y d := rfl
  unfold docF
  rw [e1, e2]
  by_cases c : sumN xs X ys Y d = 0
  · rw [if_pos c, if_pos (h1.1 c)]
    have c' := h1.1 c
    by_cases hs : xs = ys
    · exfalso
      unfold exN at c'
      rw [if_pos hs] at c'
      have hp := Nat.two_pow_pos d
      have : X * 2 ^ d = 0 := by omega
      apply hz hs
      rcases Nat.mul_eq_zero.1 this with q | q <;> omega
    · rw [if_neg hs]
      by_cases hm : mode = 2
      · rw [if_pos hm, if_pos hm]
      · rw [if_neg hm, if_neg hm]
  · rw [if_neg c, if_neg (fun q => c (h1.2 q)), h2 c]

theorem fin_doc (W D E mode : Int) (h : KL W D E) (sx : Int) (X : Nat) (ex sy : Int) (Y : Nat) (ey : Int) (hf : Fin2 sx X ex sy Y ey) (hX : ey < ex → hid D ≤ (X : Int)) (hY : ex < ey → hid D ≤ (Y : Int)) (hz : sx = sy → ¬ (X = 0 ∧ Y = 0)) :
    finSum W D mode sx X ex sy Y ey = atF W D mode sx X ex sy Y ey (min ex ey) := by
  obtain ⟨_, _, ⟨_, x1⟩, ⟨_, y1⟩, _, _, _, _, o1, o2⟩ := hf
  unfold finSum fN fS fE fL atF
  by_cases c : ex < ey
  · simp only [if_pos c]
    have ho : (ey - ex).toNat = 0 ∨ X / 2 ^ (ey - ex).toNat < Y := by
      have := o2 (by omega); unfold Ord at this; simpa using this
    have q := one_sum W D E mode h sy Y sx X (ey - ex).toNat ey ho (by omega) (fun _ => hY c) (fun a b => hz a.symm ⟨b.2, b.1⟩)
    rw [show ey - ((ey - ex).toNat : Int) = ex by omega] at q
    rw [show min ex ey = ex by omega, show (ex - ex).toNat = 0 by omega, Nat.pow_zero, Nat.mul_one, docF_swap, ← q]
    by_cases hs : sx = sy
    · subst hs; rfl
    · simp only [if_neg hs, if_neg (fun a : sy = sx => hs a.symm)]
  · simp only [if_neg c]
    have ho : (ex - ey).toNat = 0 ∨ Y / 2 ^ (ex - ey).toNat < X := by
      have := o1 (by omega); unfold Ord at this; simpa using this
    have q := one_sum W D E mode h sx X sy Y (ex - ey).toNat ex ho (by omega) (fun _ => hX (by omega)) hz
    rw [show ex - ((ex - ey).toNat : Int) = ey by omega] at q
    rw [show min ex ey = ey by omega, show (ey - ey).toNat = 0 by omega, Nat.pow_zero, Nat.mul_one, ← q]

/-- The number and the exponent that the document takes of a float. -/
def tM (W D a : Int) : Nat := (mant D (siz W a)).toNat
theorem add_doc (W D E mode a b : Int) (h : KL W D E) (ca : cls D (siz W a) ≤ 2) (cb : cls D (siz W b) ≤ 2) (hz : sgn W a = sgn W b → ¬ (cls D (siz W a) = 0 ∧ cls D (siz W b) = 0)) :
    addF W D mode a b = atF W D mode (rS W D a) (tM W D a) (rE D (siz W a)) (rS W D b) (tM W D b) (rE D (siz W b)) (min (rE D (siz W a)) (rE D (siz W b))) := by
  obtain ⟨a0, a1⟩ := siz_b W D E a h
  obtain ⟨b0, b1⟩ := siz_b W D E b h
  obtain ⟨m0, m1, m2⟩ := mant_b W D E _ h a0 a1
  obtain ⟨n0, n1, n2⟩ := mant_b W D E _ h b0 b1
  obtain ⟨e1, e2, e3⟩ := expo_b W D E _ h a0 ca
  obtain ⟨f1, f2, f3⟩ := expo_b W D E _ h b0 cb
  have na := cls_nn D (siz W a)
  have nb := cls_nn D (siz W b)
  have hf := fin2_of W D E a b h ca cb
  have q1 : addF W D mode a b = finSum W D mode (sgn W a) (mant D (siz W a)) (expo D (siz W a)) (sgn W b) (mant D (siz W b)) (expo D (siz W b)) := by
    unfold addF
    rw [if_neg (by omega)]
    unfold opAdd numAdd
    rw [if_neg (by omega), if_neg (by omega), if_neg (by omega)]
  have ra : rS W D a = sgn W a := by unfold rS; rw [if_neg (by omega)]
  have rb : rS W D b = sgn W b := by unfold rS; rw [if_neg (by omega)]
  have z0 : ∀ z, cls D z = 0 → mant D z = 0 := fun z c => by
    unfold mant; rw [if_pos (by omega)]
    unfold cls at c; repeat' split at c
    all_goals omega
  have za : tM W D a ≠ 0 → expo D (siz W a) = rE D (siz W a) := fun q => by
    unfold rE
    by_cases c : cls D (siz W a) = 0
    · exfalso; apply q; unfold tM; rw [z0 _ c]; rfl
    · rw [if_pos (by omega)]
  have zb : tM W D b ≠ 0 → expo D (siz W b) = rE D (siz W b) := fun q => by
    unfold rE
    by_cases c : cls D (siz W b) = 0
    · exfalso; apply q; unfold tM; rw [z0 _ c]; rfl
    · rw [if_pos (by omega)]
  have ma : ((tM W D a : Nat) : Int) = mant D (siz W a) := by unfold tM; omega
  have mb : ((tM W D b : Nat) : Int) = mant D (siz W b) := by unfold tM; omega
  have pa : tM W D a = 0 → cls D (siz W a) = 0 := fun q => by
    by_cases c : cls D (siz W a) = 0
    · exact c
    · have := mant_pos W D E a h (by omega); omega
  have pb : tM W D b = 0 → cls D (siz W b) = 0 := fun q => by
    by_cases c : cls D (siz W b) = 0
    · exact c
    · have := mant_pos W D E b h (by omega); omega
  rw [q1, ra, rb, ← ma, ← mb]
  rw [← ma, ← mb] at hf
  have c2 : ∀ x y : Int, cls D (siz W a) ≤ 1 → expo D (siz W a) = low D := fun _ _ q => e3 q
  rw [fin_doc W D E mode h _ _ _ _ _ _ hf (fun q => by
    have : cls D (siz W a) = 2 := by
      by_cases c : cls D (siz W a) ≤ 1
      · have := e3 c; omega
      · omega
    have := m2 this; omega) (fun q => by
    have : cls D (siz W b) = 2 := by
      by_cases c : cls D (siz W b) ≤ 1
      · have := f3 c; omega
      · omega
    have := n2 this; omega) (fun q r => hz q ⟨pa r.1, pb r.2⟩)]
  exact atF_any W D mode _ _ _ _ _ _ _ _ za zb
end Go.Proofs.YtfdenbgmogojeaaDoor
