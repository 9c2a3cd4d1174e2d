/- Contract of package float's Make for every input: errors, zeros, and the rounded number. -/
import Derived.Test.YtfdenbgmogojeaaDoorFloPt
namespace Go.Proofs.YtfdenbgmogojeaaDoor
open Go.RowKit

set_option maxHeartbeats 400000 in
theorem isMode_no (m : Int) (h : ¬ Mode m) (w : World) : Calls Tryd.prog 69 #[.int .i64 m] w fun e w' => e = .returned (.bool false) ∧ w = w' := by
  by_cases c : 0 ≤ m
  · have c4 : 4 ≤ m := by unfold Mode at h; omega
    clear h
    go_enter Tryd.func69, Tryd.ntmps69
    go_wp2
    go_ret
    exact ⟨ret_b (decide_eq_false (by omega)), rfl⟩
  · clear h
    go_enter Tryd.func69, Tryd.ntmps69
    go_wp2
    go_ret
    exact ⟨rfl, rfl⟩

/-- What Make doesn't take. -/
def BadMk (k mode s m e : Int) : Prop :=
  ((k == 2) = false ∧ (k == 4) = false ∧ (k == 8) = false) ∨ (∃ W D E, KK k W D E ∧ (¬ Mode mode ∨ (Mode mode ∧ (((s == 0) = false ∧ (s == 1) = false) ∨ (Sgn s ∧ (m < 0 ∨ (0 ≤ m ∧ (e < -2000 ∨ (-2000 ≤ e ∧ 2000 < e)))))))))

set_option maxHeartbeats 2000000 in
theorem Make_bad (k mode s m e : Int) (h : BadMk k mode s m e) (w : World) :
    Calls Tryd.prog 44 #[.int .i64 k, .int .i64 mode, .int .i64 s, .int .i64 m, .int .i64 e] w fun e w' => e = .returned (.tuple #[.int .i64 0, .int .i64 0, .int .i64 2]) ∧ Below w.heap.size w w' := by
  rcases h with ⟨h2, h4, h8⟩ | ⟨W, D, E, hk, h⟩
  · go_enter Tryd.func44, Tryd.ntmps44
    go_wp2_with fail
    refine (layoutOf_no k h2 h4 h8 _).mono ?_
    rintro e w1 ⟨rfl, hb⟩
    have hB := hb.alloc hb.size (.cells #[.int .i64 0, .int .i64 0, .int .i64 0] 48)
    go_wp2
    go_ret3
    exact ⟨rfl, hB⟩
  · have Hk := Lib.hid hk; clear hk
    rcases h with hm | ⟨hm, h⟩
    · have Hm := Lib.hid hm; clear hm
      go_enter Tryd.func44, Tryd.ntmps44
      go_wp2_with fail
      refine (layoutOf_c k W D E Hk.out _).mono ?_
      rintro e w1 ⟨rfl, hb⟩
      have hB := hb.alloc hb.size (.cells #[.int .i64 W, .int .i64 D, .int .i64 E] 48)
      go_wp2_with fail
      refine (isMode_no mode Hm.out _).mono ?_
      rintro e w1 ⟨rfl, rfl⟩
      go_wp2
      go_ret3
      exact ⟨rfl, hB⟩
    · have Hm := Lib.hid hm; clear hm
      rcases h with ⟨s0, s1⟩ | ⟨rfl | rfl, hm0 | ⟨hm1, he | ⟨he0, he1⟩⟩⟩
      all_goals
        (try have n0 : (s != 0) = true := by simp at s0 ⊢; exact s0)
        (try have n1 : (s != 1) = true := by simp at s1 ⊢; exact s1)
        go_enter Tryd.func44, Tryd.ntmps44
        go_wp2_with fail
        refine (layoutOf_c k W D E Hk.out _).mono ?_
        rintro e w1 ⟨rfl, hb⟩
        have hB := hb.alloc hb.size (.cells #[.int .i64 W, .int .i64 D, .int .i64 E] 48)
        go_wp2_with fail
        refine (isMode_c mode Hm.out _).mono ?_
        rintro e w1 ⟨rfl, rfl⟩
        go_wp2
        go_ret3
        exact ⟨rfl, hB⟩

set_option maxHeartbeats 2000000 in
theorem Make_zero (k W D E mode s e : Int) (hk : KK k W D E) (hm : Mode mode) (hs : Sgn s) (he0 : -2000 ≤ e) (he1 : e ≤ 2000) (w : World) :
    Calls Tryd.prog 44 #[.int .i64 k, .int .i64 mode, .int .i64 s, .int .i64 0, .int .i64 e] w fun e w' => e = .returned (.tuple #[.int .i64 (jn W s 0), .int .i64 0, .int .i64 0]) ∧ Below w.heap.size w w' := by
  have h := hk.kl
  have Hk := Lib.hid hk; clear hk
  have Hm := Lib.hid hm; clear hm
  have hf0 : 0 < hf W := by rcases h with ⟨rfl, rfl, rfl⟩ | ⟨rfl, rfl, rfl⟩ | ⟨rfl, rfl, rfl⟩ <;> decide
  rcases hs with rfl | rfl
  all_goals
    go_enter Tryd.func44, Tryd.ntmps44
    go_wp2_with fail
    refine (layoutOf_c k W D E Hk.out _).mono ?_
    rintro e w1 ⟨rfl, hb⟩
    have hB := hb.alloc hb.size (.cells #[.int .i64 W, .int .i64 D, .int .i64 E] 48)
    have hL := Has.new w1 [.int .i64 W, .int .i64 D, .int .i64 E] 48
    obtain ⟨l0, l1, l2⟩ := hL.c3
    go_wp2_with fail
    refine (isMode_c mode Hm.out _).mono ?_
    rintro e w1 ⟨rfl, rfl⟩
    go_wp2_with fail
    refine (join_c W D E _ 0 h (by first | exact .inl rfl | exact .inr rfl) (Int.le_refl _) (by omega) _).mono ?_
    rintro e w2 ⟨rfl, hb⟩
    have hB := bt hB hb
    go_wp2
    go_ret3
    exact ⟨rfl, hB⟩

set_option maxHeartbeats 4000000 in
theorem Make_c (k W D E mode s m e : Int) (hk : KK k W D E) (hm : Mode mode) (hs : Sgn s) (m0 : 0 < m) (m1 : m < 9223372036854775808) (he0 : -2000 ≤ e) (he1 : e ≤ 2000) (w : World) :
    Calls Tryd.prog 44 #[.int .i64 k, .int .i64 mode, .int .i64 s, .int .i64 m, .int .i64 e] w fun e' w' => e' = .returned (.tuple #[.int .i64 (roundF W D mode s m.toNat e false).1, .int .i64 (roundF W D mode s m.toNat e false).2, .int .i64 0]) ∧ Below w.heap.size w w' := by
  have h := hk.kl
  have Hk := Lib.hid hk; clear hk
  have Hm := Lib.hid hm; clear hm
  have Hr := Lib.hid (fun w' => round_c W D E mode s 0 m e false h Hm.out hs ⟨by omega, by omega⟩ ⟨by omega, by omega⟩ (by rw [nn_zero]; omega) (by omega) (by have := bl_mono_le (nn 0 m) 64 (by rw [nn_zero]; omega); have := (hid_b W D E h); have := (hid_pow W D E h).2.2; omega) w')
  rw [nn_zero] at Hr
  rcases hs with rfl | rfl
  all_goals
    go_enter Tryd.func44, Tryd.ntmps44
    go_wp2_with fail
    refine (layoutOf_c k W D E Hk.out _).mono ?_
    rintro e w1 ⟨rfl, hb⟩
    have hB := hb.alloc hb.size (.cells #[.int .i64 W, .int .i64 D, .int .i64 E] 48)
    have hL := Has.new w1 [.int .i64 W, .int .i64 D, .int .i64 E] 48
    obtain ⟨l0, l1, l2⟩ := hL.c3
    go_wp2_with fail
    refine (isMode_c mode Hm.out _).mono ?_
    rintro e w1 ⟨rfl, rfl⟩
    go_wp2_with fail
    refine (Hr.out _).mono ?_
    rintro e w2 ⟨rfl, hb⟩
    have hB := bt hB hb
    go_wp2
    go_ret3
    exact ⟨rfl, hB⟩
end Go.Proofs.YtfdenbgmogojeaaDoor
