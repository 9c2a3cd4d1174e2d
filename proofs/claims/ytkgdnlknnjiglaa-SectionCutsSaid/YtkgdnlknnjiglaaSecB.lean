/- Contracts of Count of both sides. -/
import Derived.Test.YtkgdnlknnjiglaaSecA
namespace Go.Proofs.Ytkgdnlknnjiglaa
open Go.RowKit

theorem ret_ii {a b c d : Int} (h : a = b) (h2 : c = d) : Ending.returned (.tuple #[.int .i64 a, .int .i64 c]) = .returned (.tuple #[.int .i64 b, .int .i64 d]) := by rw [h, h2]
set_option maxHeartbeats 1000000 in
theorem rIsTriple_c (lo hi st : Int) (w : World) : Calls Try.prog 44 #[.agg #[.int .i64 lo, .int .i64 hi, .int .i64 st]] w fun r w' => r = .returned (.bool (triB lo hi st)) ∧ Below w.heap.size w w' := by
  obtain ⟨t, ht⟩ : ∃ t, t = triB lo hi st := ⟨_, rfl⟩
  have HT := Lib.hid ht
  obtain ⟨b1, e1⟩ : ∃ b, b = nearB lo := ⟨_, rfl⟩
  obtain ⟨b2, e2⟩ : ∃ b, b = nearB hi := ⟨_, rfl⟩
  obtain ⟨b3, e3⟩ : ∃ b, b = nearB st := ⟨_, rfl⟩
  have c1 := fun w => rnear_c lo w
  have c2 := fun w => rnear_c hi w
  have c3 := fun w => rnear_c st w
  rw [← e1] at c1; rw [← e2] at c2; rw [← e3] at c3
  unfold triB at HT
  rw [← e1, ← e2, ← e3] at HT
  have C1 := Lib.hid c1; have C2 := Lib.hid c2; have C3 := Lib.hid c3
  rw [← ht]
  clear c1 c2 c3 e1 e2 e3 ht
  obtain ⟨z, hz⟩ : ∃ z, z = decide (st = 0) := ⟨_, rfl⟩
  have f0 : (st == 0) = z := by rw [hz]; by_cases h : st = 0 <;> simp [h]
  have f1 : (st != 0) = !z := by rw [hz]; by_cases h : st = 0 <;> simp [h]
  rw [← hz] at HT
  clear hz
  cases b1 <;> cases b2 <;> cases b3 <;> cases z
  all_goals
    have H := Lib.hid (show t = _ from HT.out)
    clear HT
    simp only [Bool.and_false, Bool.and_true, Bool.not_false, Bool.not_true] at H f1
    go_enter Try.func44, Try.ntmps44
    go_wp2_with (first | (go_at_call 51; first | ((with_reducible refine (C1.out _).mono ?_); rintro e w' ⟨rfl, rfl⟩) | ((with_reducible refine (C2.out _).mono ?_); rintro e w' ⟨rfl, rfl⟩) | ((with_reducible refine (C3.out _).mono ?_); rintro e w' ⟨rfl, rfl⟩)) | go_in)
    go_ret
    exact ⟨ret_b H.out.symm, (Below.refl _ _).alloc (Nat.le_refl _) _⟩
def cntR (lo hi st : Int) : Value := .tuple #[.int .i64 (if triB lo hi st = true then cnt lo hi st else 0), .int .i64 (if triB lo hi st = true then 0 else 2)]
set_option maxHeartbeats 1000000 in
theorem rcount_c (lo hi st : Int) (w : World) (h : triB lo hi st = true) : Calls Try.prog 45 #[.agg #[.int .i64 lo, .int .i64 hi, .int .i64 st]] w fun r w' => r = .returned (.int .i64 (cnt lo hi st)) ∧ Below w.heap.size w w' := by
  obtain ⟨c, hc⟩ : ∃ c, c = cnt lo hi st := ⟨_, rfl⟩
  have HC := Lib.hid hc
  obtain ⟨h1, h2, h3, h4⟩ := tri_iff.1 h
  rw [near_iff] at h1 h2 h3
  have f0 : (st == 0) = false := by simpa using h4
  have hb := tdiv_bd (hi - lo + st) st 6442450944 (by omega) (by omega)
  obtain ⟨q, hq⟩ : ∃ q, q = (hi - lo + st).tdiv st := ⟨_, rfl⟩
  have hq' : (hi - lo + st).tdiv st = q := hq.symm
  rw [hq'] at hb
  rw [← hc]
  have HQ := Lib.hid (show c = max 0 q by rw [hc, hq]; rfl)
  clear hc hq h
  go_enter Try.func45, Try.ntmps45
  go_wp2
  all_goals
    go_ret
    exact ⟨ret_i (by rw [HQ.out]; omega), (Below.refl _ _).alloc (Nat.le_refl _) _⟩
theorem cntR_yes {lo hi st : Int} (h : triB lo hi st = true) : cntR lo hi st = .tuple #[.int .i64 (cnt lo hi st), .int .i64 0] := by unfold cntR; rw [if_pos h, if_pos h]
theorem cntR_no {lo hi st : Int} (h : triB lo hi st = false) : cntR lo hi st = .tuple #[.int .i64 0, .int .i64 2] := by unfold cntR; rw [if_neg (by rw [h]; decide), if_neg (by rw [h]; decide)]
set_option maxHeartbeats 1000000 in
theorem rCount_c (lo hi st : Int) (w : World) : Calls Try.prog 13 #[.agg #[.int .i64 lo, .int .i64 hi, .int .i64 st]] w fun r w' => r = .returned (cntR lo hi st) ∧ Below w.heap.size w w' := by
  have C := Lib.hid fun w => rIsTriple_c lo hi st w
  by_cases h : triB lo hi st = true
  · have D := Lib.hid fun w => rcount_c lo hi st w h
    rw [cntR_yes h]
    rw [h] at C
    clear h
    go_enter Try.func13, Try.ntmps13
    go_wp2_with fail
    refine (C.out _).mono ?_
    rintro e w1 ⟨rfl, hb⟩
    have hw := (Has.new w [.int .i64 lo, .int .i64 hi, .int .i64 st] 23).keep hb
    obtain ⟨g1, g2, g3⟩ := hw.c3
    have hz := hb.size
    have HB := Lib.hid (((Below.refl _ w).alloc (Nat.le_refl _) (.cells #[.int .i64 lo, .int .i64 hi, .int .i64 st] 23)).trans (hb.mono (by simp)))
    clear hw hb
    go_wp2_with fail
    refine (D.out _).mono ?_
    rintro e w2 ⟨rfl, hb⟩
    go_wp2
    go_ret2
    exact ⟨rfl, HB.out.trans (hb.mono HB.out.size)⟩
  · have h' : triB lo hi st = false := by simpa using h
    rw [cntR_no h']
    rw [h'] at C
    clear h h'
    go_enter Try.func13, Try.ntmps13
    go_wp2_with fail
    refine (C.out _).mono ?_
    rintro e w1 ⟨rfl, hb⟩
    go_wp2
    go_ret2
    exact ⟨rfl, ((Below.refl _ w).alloc (Nat.le_refl _) _).trans (hb.mono (by simp))⟩
set_option maxHeartbeats 1000000 in
theorem Count_c (lo hi st : Int) (w : World) : Calls Try.prog 12 #[.agg #[.int .i64 lo, .int .i64 hi, .int .i64 st]] w fun r w' => r = .returned (cntR lo hi st) ∧ Below w.heap.size w w' := by
  have C := Lib.hid fun w => isTriple_c lo hi st w
  by_cases h : triB lo hi st = true
  · rw [cntR_yes h]
    rw [h] at C
    obtain ⟨c, hc⟩ : ∃ c, c = cnt lo hi st := ⟨_, rfl⟩
    obtain ⟨h1, h2, h3, h4⟩ := tri_iff.1 h
    rw [near_iff] at h1 h2 h3
    have f0 : (st == 0) = false := by simpa using h4
    have hb := tdiv_bd (hi - lo + st) st 6442450944 (by omega) (by omega)
    obtain ⟨q, hq⟩ : ∃ q, q = (hi - lo + st).tdiv st := ⟨_, rfl⟩
    have hq' : (hi - lo + st).tdiv st = q := hq.symm
    rw [hq'] at hb
    rw [← hc]
    have HQ := Lib.hid (show c = max 0 q by rw [hc, hq]; rfl)
    clear hc hq h
    go_enter Try.func12, Try.ntmps12
    go_wp2_with fail
    refine (C.out _).mono ?_
    rintro e w1 ⟨rfl, hb1⟩
    have hw := (Has.new w [.int .i64 lo, .int .i64 hi, .int .i64 st] 23).keep hb1
    obtain ⟨g1, g2, g3⟩ := hw.c3
    have HB := Lib.hid (((Below.refl _ w).alloc (Nat.le_refl _) (.cells #[.int .i64 lo, .int .i64 hi, .int .i64 st] 23)).trans (hb1.mono (by simp)))
    clear hw hb1
    go_wp2
    all_goals
      go_ret2
      exact ⟨ret_ii (by have := HQ.out; omega) rfl, HB.out⟩
  · have h' : triB lo hi st = false := by simpa using h
    rw [cntR_no h']
    rw [h'] at C
    clear h h'
    go_enter Try.func12, Try.ntmps12
    go_wp2_with fail
    refine (C.out _).mono ?_
    rintro e w1 ⟨rfl, hb⟩
    go_wp2
    go_ret2
    exact ⟨rfl, ((Below.refl _ w).alloc (Nat.le_refl _) _).trans (hb.mono (by simp))⟩
end Go.Proofs.Ytkgdnlknnjiglaa
