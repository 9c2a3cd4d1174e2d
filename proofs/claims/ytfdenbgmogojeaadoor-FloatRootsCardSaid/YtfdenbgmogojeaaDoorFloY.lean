/- Contract of package float's Compare for every kind and two floats of it. -/
import Derived.Test.YtfdenbgmogojeaaDoorFloX
namespace Go.Proofs.YtfdenbgmogojeaaDoor
open Go.RowKit

theorem siz_63 (W D E a : Int) (h : KL W D E) : 0 ≤ siz W a ∧ siz W a ≤ 9223372036854775807 := by
  have := siz_b W D E a h; have := (hf_b h).2; omega

set_option maxHeartbeats 1000000 in
theorem place_c (W D E a : Int) (h : KL W D E) (hv : okB W a = true) (P : Nat) (w : World) (hL : Has w P [.int .i64 W, .int .i64 D, .int .i64 E]) :
    Calls Tryd.prog 75 #[.int .i64 a, .pointer (some ⟨P, 0, none⟩)] w fun e w' => e = .returned (.int .i64 (placeF W a)) ∧ Below w.heap.size w w' := by
  obtain ⟨z0, z1⟩ := siz_63 W D E a h
  obtain ⟨l0, l1, l2⟩ := hL.c3
  by_cases c : sgn W a = 1
  · have e1 : (sgn W a == 1) = true := by simp [c]
    have hN := Lib.hid (show placeF W a = -(siz W a) by unfold placeF; rw [if_pos c])
    clear c
    go_enter Tryd.func75, Tryd.ntmps75
    go_wp2_with fail
    refine (sign_c W D E a h hv _).mono ?_
    rintro e w1 ⟨rfl, hb⟩
    have hL := hL.keep hb
    obtain ⟨l0, l1, l2⟩ := hL.c3
    go_wp2_with fail
    refine (size_c W D E a h _).mono ?_
    rintro e w2 ⟨rfl, hb2⟩
    go_wp2
    go_ret
    exact ⟨by rw [hN.out]; rfl, bt hb hb2⟩
  · have e1 : (sgn W a == 1) = false := by simp [c]
    have hN := Lib.hid (show placeF W a = siz W a by unfold placeF; rw [if_neg c])
    clear c
    go_enter Tryd.func75, Tryd.ntmps75
    go_wp2_with fail
    refine (sign_c W D E a h hv _).mono ?_
    rintro e w1 ⟨rfl, hb⟩
    have hL := hL.keep hb
    obtain ⟨l0, l1, l2⟩ := hL.c3
    go_wp2_with fail
    refine (size_c W D E a h _).mono ?_
    rintro e w2 ⟨rfl, hb2⟩
    go_wp2
    go_ret
    exact ⟨by rw [hN.out]; rfl, bt hb hb2⟩

def cmpI (x y : Int) : Int := if x < y then -1 else if y < x then 1 else 0
set_option maxHeartbeats 1000000 in
theorem cmp_c (x y : Int) (w : World) : Calls Tryd.prog 78 #[.int .i64 x, .int .i64 y] w fun e w' => e = .returned (.int .i64 (cmpI x y)) ∧ w = w' := by
  by_cases c1 : x < y
  · have hN := Lib.hid (show cmpI x y = -1 by unfold cmpI; rw [if_pos c1])
    go_enter Tryd.func78, Tryd.ntmps78
    go_wp2
    go_ret
    exact ⟨by rw [hN.out]; rfl, rfl⟩
  · by_cases c2 : y < x
    · have hN := Lib.hid (show cmpI x y = 1 by unfold cmpI; rw [if_neg c1, if_pos c2])
      clear c1
      go_enter Tryd.func78, Tryd.ntmps78
      go_wp2
      go_ret
      exact ⟨by rw [hN.out]; rfl, rfl⟩
    · have hN := Lib.hid (show cmpI x y = 0 by unfold cmpI; rw [if_neg c1, if_neg c2])
      go_enter Tryd.func78, Tryd.ntmps78
      go_wp2
      go_ret
      exact ⟨by rw [hN.out]; rfl, rfl⟩

theorem cmpF_lt (W D a b : Int) (ca : ¬ cls D (siz W a) = 4) (cb : ¬ cls D (siz W b) = 4) : cmpF W D a b = cmpI (placeF W a) (placeF W b) := by
  unfold cmpF cmpI; rw [if_neg (by rintro (q | q); exact ca q; exact cb q)]

set_option maxHeartbeats 2000000 in
theorem Compare_c (k W D E a b : Int) (hk : KK k W D E) (ha : okB W a = true) (hb' : okB W b = true) (w : World) :
    Calls Tryd.prog 26 #[.int .i64 k, .int .i64 a, .int .i64 b] w fun e w' => e = .returned (.tuple #[.int .i64 (cmpF W D a b), .int .i64 0]) ∧ Below w.heap.size w w' := by
  have h := hk.kl
  have Hk := Lib.hid hk; clear hk
  by_cases ca : cls D (siz W a) = 4
  all_goals try by_cases cb : cls D (siz W b) = 4
  · have ea : (cls D (siz W a) == 4) = true := by simp [ca]
    have hN := Lib.hid (show cmpF W D a b = 2 by unfold cmpF; rw [if_pos (.inl ca)])
    clear ca cb
    go_enter Tryd.func26, Tryd.ntmps26
    go_wp2_with fail
    refine (layoutOf_c k W D E Hk.out _).mono ?_
    rintro e wa ⟨rfl, hb⟩
    have hB := hb.alloc hb.size (.cells #[.int .i64 W, .int .i64 D, .int .i64 E] 48)
    have hL := Has.new wa [.int .i64 W, .int .i64 D, .int .i64 E] 48
    go_wp2_with fail
    refine (holds_c W D E a h _).mono ?_
    rintro e w1 ⟨rfl, hb⟩
    have hB := bt hB hb
    have hL := hL.keep hb
    obtain ⟨l0, l1, l2⟩ := hL.c3
    go_wp2_with fail
    refine (holds_c W D E b h _).mono ?_
    rintro e w1 ⟨rfl, hb⟩
    have hB := bt hB hb
    have hL := hL.keep hb
    obtain ⟨l0, l1, l2⟩ := hL.c3
    go_wp2_with fail
    refine (class_c W D E a h _).mono ?_
    rintro e w1 ⟨rfl, hb⟩
    have hB := bt hB hb
    go_wp2
    go_ret2
    exact ⟨by rw [hN.out]; rfl, hB⟩
  · have ea : (cls D (siz W a) == 4) = true := by simp [ca]
    have hN := Lib.hid (show cmpF W D a b = 2 by unfold cmpF; rw [if_pos (.inl ca)])
    clear ca cb
    go_enter Tryd.func26, Tryd.ntmps26
    go_wp2_with fail
    refine (layoutOf_c k W D E Hk.out _).mono ?_
    rintro e wa ⟨rfl, hb⟩
    have hB := hb.alloc hb.size (.cells #[.int .i64 W, .int .i64 D, .int .i64 E] 48)
    have hL := Has.new wa [.int .i64 W, .int .i64 D, .int .i64 E] 48
    go_wp2_with fail
    refine (holds_c W D E a h _).mono ?_
    rintro e w1 ⟨rfl, hb⟩
    have hB := bt hB hb
    have hL := hL.keep hb
    obtain ⟨l0, l1, l2⟩ := hL.c3
    go_wp2_with fail
    refine (holds_c W D E b h _).mono ?_
    rintro e w1 ⟨rfl, hb⟩
    have hB := bt hB hb
    have hL := hL.keep hb
    obtain ⟨l0, l1, l2⟩ := hL.c3
    go_wp2_with fail
    refine (class_c W D E a h _).mono ?_
    rintro e w1 ⟨rfl, hb⟩
    have hB := bt hB hb
    go_wp2
    go_ret2
    exact ⟨by rw [hN.out]; rfl, hB⟩
  · have ea : (cls D (siz W a) == 4) = false := by simp [ca]
    have eb : (cls D (siz W b) == 4) = true := by simp [cb]
    have hN := Lib.hid (show cmpF W D a b = 2 by unfold cmpF; rw [if_pos (.inr cb)])
    clear ca cb
    go_enter Tryd.func26, Tryd.ntmps26
    go_wp2_with fail
    refine (layoutOf_c k W D E Hk.out _).mono ?_
    rintro e wa ⟨rfl, hb⟩
    have hB := hb.alloc hb.size (.cells #[.int .i64 W, .int .i64 D, .int .i64 E] 48)
    have hL := Has.new wa [.int .i64 W, .int .i64 D, .int .i64 E] 48
    go_wp2_with fail
    refine (holds_c W D E a h _).mono ?_
    rintro e w1 ⟨rfl, hb⟩
    have hB := bt hB hb
    have hL := hL.keep hb
    obtain ⟨l0, l1, l2⟩ := hL.c3
    go_wp2_with fail
    refine (holds_c W D E b h _).mono ?_
    rintro e w1 ⟨rfl, hb⟩
    have hB := bt hB hb
    have hL := hL.keep hb
    obtain ⟨l0, l1, l2⟩ := hL.c3
    go_wp2_with fail
    refine (class_c W D E a h _).mono ?_
    rintro e w1 ⟨rfl, hb⟩
    have hB := bt hB hb
    have hL := hL.keep hb
    obtain ⟨l0, l1, l2⟩ := hL.c3
    go_wp2_with fail
    refine (class_c W D E b h _).mono ?_
    rintro e w1 ⟨rfl, hb⟩
    have hB := bt hB hb
    go_wp2
    go_ret2
    exact ⟨by rw [hN.out]; rfl, hB⟩
  · have ea : (cls D (siz W a) == 4) = false := by simp [ca]
    have eb : (cls D (siz W b) == 4) = false := by simp [cb]
    have hN := Lib.hid (cmpF_lt W D a b ca cb)
    clear ca cb
    go_enter Tryd.func26, Tryd.ntmps26
    go_wp2_with fail
    refine (layoutOf_c k W D E Hk.out _).mono ?_
    rintro e wa ⟨rfl, hb⟩
    have hB := hb.alloc hb.size (.cells #[.int .i64 W, .int .i64 D, .int .i64 E] 48)
    have hL := Has.new wa [.int .i64 W, .int .i64 D, .int .i64 E] 48
    go_wp2_with fail
    refine (holds_c W D E a h _).mono ?_
    rintro e w1 ⟨rfl, hb⟩
    have hB := bt hB hb
    have hL := hL.keep hb
    obtain ⟨l0, l1, l2⟩ := hL.c3
    go_wp2_with fail
    refine (holds_c W D E b h _).mono ?_
    rintro e w1 ⟨rfl, hb⟩
    have hB := bt hB hb
    have hL := hL.keep hb
    obtain ⟨l0, l1, l2⟩ := hL.c3
    go_wp2_with fail
    refine (class_c W D E a h _).mono ?_
    rintro e w1 ⟨rfl, hb⟩
    have hB := bt hB hb
    have hL := hL.keep hb
    obtain ⟨l0, l1, l2⟩ := hL.c3
    go_wp2_with fail
    refine (class_c W D E b h _).mono ?_
    rintro e w1 ⟨rfl, hb⟩
    have hB := bt hB hb
    have hL := hL.keep hb
    obtain ⟨l0, l1, l2⟩ := hL.c3
    go_wp2_with fail
    refine (place_c W D E a h ha _ _ hL).mono ?_
    rintro e w1 ⟨rfl, hb⟩
    have hB := bt hB hb
    have hL := hL.keep hb
    go_wp2_with fail
    refine (place_c W D E b h hb' _ _ hL).mono ?_
    rintro e w1 ⟨rfl, hb⟩
    have hB := bt hB hb
    go_wp2_with fail
    refine (cmp_c _ _ _).mono ?_
    rintro e w1 ⟨rfl, rfl⟩
    go_wp2
    go_ret2
    exact ⟨by rw [hN.out]; rfl, hB⟩
end Go.Proofs.YtfdenbgmogojeaaDoor
