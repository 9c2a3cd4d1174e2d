/- Contract of quadratref01's Make for every input: errors, zeros, and the rounded number. -/
import Derived.Test.YtfdenbgmogojeaaDoorRefQ
import Derived.Test.YtfdenbgmogojeaaDoorFloMk
import Derived.Test.YtfdenbgmogojeaaDoorRefE
namespace Go.Proofs.YtfdenbgmogojeaaDoor
open Go.RowKit

set_option maxHeartbeats 400000 in
theorem isMode_rno (m : Int) (h : ¬ Mode m) (w : World) : Calls Tryd.prog 82 #[.int .i64 m] w fun e w' => e = .returned (.bool false) ∧ w = w' := by
  by_cases c : 0 ≤ m
  · have c4 : 4 ≤ m := by unfold Mode at h; omega
    clear h
    go_enter Tryd.func82, Tryd.ntmps82
    go_wp2
    go_ret
    exact ⟨ret_b (decide_eq_false (by omega)), rfl⟩
  · clear h
    go_enter Tryd.func82, Tryd.ntmps82
    go_wp2
    go_ret
    exact ⟨rfl, rfl⟩

theorem D_ne (W D E : Int) (h : KL W D E) : (D == 0) = false := by
  rcases h with ⟨rfl, rfl, rfl⟩ | ⟨rfl, rfl, rfl⟩ | ⟨rfl, rfl, rfl⟩ <;> rfl

set_option maxHeartbeats 2000000 in
theorem rMake_bad (k mode s m e : Int) (h : BadMk k mode s m e) (w : World) :
    Calls Tryd.prog 45 #[.int .i64 k, .int .i64 mode, .int .i64 s, .int .i64 m, .int .i64 e] w fun e w' => e = .returned (.tuple #[.int .i64 0, .int .i64 0, .int .i64 2]) ∧ Below w.heap.size w w' := by
  rcases h with ⟨h2, h4, h8⟩ | ⟨W, D, E, hk, h⟩
  · go_enter Tryd.func45, Tryd.ntmps45
    go_wp2_with fail
    refine (rDigits_no k h2 h4 h8 _).mono ?_
    rintro e w1 ⟨rfl, rfl⟩
    go_wp2
    go_ret3
    exact ⟨rfl, Below.refl _ _⟩
  · have hd := D_ne W D E hk.kl
    have Hk := Lib.hid hk; clear hk
    rcases h with hm | ⟨hm, h⟩
    · have Hm := Lib.hid hm; clear hm
      go_enter Tryd.func45, Tryd.ntmps45
      go_wp2_with fail
      refine (rDigits_c k W D E Hk.out _).mono ?_
      rintro e w1 ⟨rfl, rfl⟩
      go_wp2_with fail
      refine (isMode_rno mode Hm.out _).mono ?_
      rintro e w1 ⟨rfl, rfl⟩
      go_wp2
      go_ret3
      exact ⟨rfl, Below.refl _ _⟩
    · have Hm := Lib.hid hm; clear hm
      have hs : s < 0 ∨ (0 ≤ s ∧ 1 < s) ∨ ((s = 0 ∨ s = 1) ∧ (m < 0 ∨ (0 ≤ m ∧ (e < -2000 ∨ (-2000 ≤ e ∧ 2000 < e))))) := by
        rcases h with ⟨s0, s1⟩ | ⟨hs, h⟩
        · simp at s0 s1; omega
        · exact .inr (.inr ⟨hs, h⟩)
      clear h
      rcases hs with c | ⟨c0, c1⟩ | ⟨rfl | rfl, hm0 | ⟨hm1, he | ⟨he0, he1⟩⟩⟩
      all_goals
        go_enter Tryd.func45, Tryd.ntmps45
        go_wp2_with fail
        refine (rDigits_c k W D E Hk.out _).mono ?_
        rintro e w1 ⟨rfl, rfl⟩
        go_wp2_with fail
        refine (isMode_r mode Hm.out _).mono ?_
        rintro e w1 ⟨rfl, rfl⟩
        go_wp2
        go_ret3
        exact ⟨rfl, Below.refl _ _⟩

set_option maxHeartbeats 2000000 in
theorem rMake_zero (k W D E mode s e : Int) (hk : KK k W D E) (hm : Mode mode) (hs : Sgn s) (he0 : -2000 ≤ e) (he1 : e ≤ 2000) (w : World) :
    Calls Tryd.prog 45 #[.int .i64 k, .int .i64 mode, .int .i64 s, .int .i64 0, .int .i64 e] w fun e w' => e = .returned (.tuple #[.int .i64 (jn W s 0), .int .i64 0, .int .i64 0]) ∧ Below w.heap.size w w' := by
  have hd := D_ne W D E hk.kl
  have Hk := Lib.hid hk; clear hk
  have Hm := Lib.hid hm; clear hm
  rcases hs with rfl | rfl
  all_goals
    go_enter Tryd.func45, Tryd.ntmps45
    go_wp2_with fail
    refine (rDigits_c k W D E Hk.out _).mono ?_
    rintro e w1 ⟨rfl, rfl⟩
    go_wp2_with fail
    refine (isMode_r mode Hm.out _).mono ?_
    rintro e w1 ⟨rfl, rfl⟩
    go_wp2_with fail
    refine (rZero_c k W D E _ Hk.out (by first | exact .inl rfl | exact .inr rfl) _).mono ?_
    rintro e w2 ⟨rfl, hb⟩
    go_wp2
    go_ret3
    exact ⟨rfl, hb⟩

set_option maxHeartbeats 4000000 in
theorem rMake_c (k W D E mode s m e : Int) (hk : KK k W D E) (hm : Mode mode) (hs : Sgn s) (m0 : 0 < m) (m1 : m < 9223372036854775808) (he0 : -2000 ≤ e) (he1 : e ≤ 2000) (w : World) :
    Calls Tryd.prog 45 #[.int .i64 k, .int .i64 mode, .int .i64 s, .int .i64 m, .int .i64 e] w fun e' w' => e' = .returned (.tuple #[.int .i64 (roundF W D mode s m.toNat e false).1, .int .i64 (roundF W D mode s m.toNat e false).2, .int .i64 0]) ∧ Below w.heap.size w w' := by
  have hd := D_ne W D E hk.kl
  have hb64 : bl m.toNat ≤ 64 := bl_mono_le _ 64 (by omega)
  have Hk := Lib.hid hk; clear hk
  have Hm := Lib.hid hm; clear hm
  have Ho := Lib.hid (fun w' => Of_c m m.toNat (by rw [IntKind.wrap_u64]; omega) (by omega) w')
  have Hr := Lib.hid (fun v w' (hv : RN w' v (bl m.toNat) m.toNat) => Rounded_c k W D E mode s m.toNat e false v Hk.out Hm.out hs (by omega) (by omega) (by omega) (by omega) (fun h => by cases h) w' hv)
  rcases hs with rfl | rfl
  all_goals
    go_enter Tryd.func45, Tryd.ntmps45
    go_wp2_with fail
    refine (rDigits_c k W D E Hk.out _).mono ?_
    rintro e w1 ⟨rfl, rfl⟩
    go_wp2_with fail
    refine (isMode_r mode Hm.out _).mono ?_
    rintro e w1 ⟨rfl, rfl⟩
    go_wp2_with fail
    refine (Ho.out _).mono ?_
    rintro e w1 ⟨v, rfl, hown, hb⟩
    go_wp2_with fail
    refine (Hr.out _ _ (RN.of hown)).mono ?_
    rintro e w2 ⟨rfl, hb2⟩
    go_wp2
    go_ret3
    exact ⟨rfl, bt hb hb2⟩
end Go.Proofs.YtfdenbgmogojeaaDoor
