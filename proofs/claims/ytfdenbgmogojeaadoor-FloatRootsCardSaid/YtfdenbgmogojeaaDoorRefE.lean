/- Contracts of quadratref01's asked, size and Compare for every kind and two floats: Compare returns what the code's returns. -/
import Derived.Test.YtfdenbgmogojeaaDoorRefB
import Derived.Test.YtfdenbgmogojeaaDoorRefC
import Derived.Test.YtfdenbgmogojeaaDoorFloY
namespace Go.Proofs.YtfdenbgmogojeaaDoor
open Go.RowKit

set_option maxHeartbeats 2000000 in
theorem rasked_c (k W D E m a b : Int) (hk : KK k W D E) (hm : Mode m) (w : World) :
    Calls Tryd.prog 51 #[.int .i64 k, .int .i64 m, .int .i64 a, .int .i64 b] w fun e w' => e = .returned (.bool (okB W a && okB W b)) ∧ w = w' := by
  have Hk := Lib.hid hk; clear hk
  cases hA : okB W a
  · rcases hm with rfl | rfl | rfl | rfl
    all_goals
      go_enter Tryd.func51, Tryd.ntmps51
      go_wp2_with (first | (go_at_call 29; refine (rValid_c k W D E a Hk.out _).mono ?_; rw [hA]; rintro e w1 ⟨rfl, rfl⟩) | go_in)
      go_ret
      exact ⟨rfl, rfl⟩
  · cases hB : okB W b
    · rcases hm with rfl | rfl | rfl | rfl
      all_goals
        go_enter Tryd.func51, Tryd.ntmps51
        go_wp2_with (go_at_call 82; go_in)
        refine (rValid_c k W D E a Hk.out _).mono ?_
        rw [hA]
        rintro e w1 ⟨rfl, rfl⟩
        go_wp2_with fail
        refine (rValid_c k W D E b Hk.out _).mono ?_
        rw [hB]
        rintro e w1 ⟨rfl, rfl⟩
        go_wp2
        go_ret
        exact ⟨rfl, rfl⟩
    · rcases hm with rfl | rfl | rfl | rfl
      all_goals
        go_enter Tryd.func51, Tryd.ntmps51
        go_wp2_with (go_at_call 82; go_in)
        refine (rValid_c k W D E a Hk.out _).mono ?_
        rw [hA]
        rintro e w1 ⟨rfl, rfl⟩
        go_wp2_with fail
        refine (rValid_c k W D E b Hk.out _).mono ?_
        rw [hB]
        rintro e w1 ⟨rfl, rfl⟩
        go_wp2
        go_ret
        exact ⟨rfl, rfl⟩

set_option maxHeartbeats 1000000 in
theorem isMode_r (m : Int) (hm : Mode m) (w : World) : Calls Tryd.prog 82 #[.int .i64 m] w fun e w' => e = .returned (.bool true) ∧ w = w' := by
  rcases hm with rfl | rfl | rfl | rfl
  all_goals
    go_enter Tryd.func82, Tryd.ntmps82
    go_wp2
    go_ret
    exact ⟨rfl, rfl⟩

set_option maxHeartbeats 1000000 in
theorem rsize_c (k W D E a : Int) (hk : KK k W D E) (w : World) :
    Calls Tryd.prog 79 #[.int .i64 k, .int .i64 a] w fun e w' => e = .returned (.int .i64 (siz W a)) ∧ w = w' := by
  have hz := siz_63 W D E a hk.kl
  obtain ⟨z0, z1⟩ := hz
  rcases hk with ⟨rfl, rfl, rfl, rfl⟩ | ⟨rfl, rfl, rfl, rfl⟩ | ⟨rfl, rfl, rfl, rfl⟩
  · have e1 : bits .and .u64 (IntKind.u64.wrap a) 32767 = siz 16 a := and_16 a
    go_enter Tryd.func79, Tryd.ntmps79
    go_wp2
    go_ret
    exact ⟨rfl, rfl⟩
  · have e1 : bits .and .u64 (IntKind.u64.wrap a) 2147483647 = siz 32 a := and_32 a
    go_enter Tryd.func79, Tryd.ntmps79
    go_wp2
    go_ret
    exact ⟨rfl, rfl⟩
  · have e1 : bits .and .u64 (IntKind.u64.wrap a) 9223372036854775807 = siz 64 a := and_64 a
    go_enter Tryd.func79, Tryd.ntmps79
    go_wp2
    go_ret
    exact ⟨rfl, rfl⟩

set_option maxHeartbeats 1000000 in
theorem rCompare_out (k W D E a b : Int) (hk : KK k W D E) (hv : (okB W a && okB W b) = false) (w : World) :
    Calls Tryd.prog 27 #[.int .i64 k, .int .i64 a, .int .i64 b] w fun e w' => e = .returned (.tuple #[.int .i64 0, .int .i64 2]) ∧ Below w.heap.size w w' := by
  have H := Lib.hid (fun w' => rasked_c k W D E 0 a b hk (.inl rfl) w')
  rw [hv] at H
  clear hk hv
  go_enter Tryd.func27, Tryd.ntmps27
  go_wp2_with fail
  refine (H.out _).mono ?_
  rintro e w0 ⟨rfl, rfl⟩
  go_wp2
  go_ret2
  exact ⟨rfl, Below.refl _ _⟩
theorem wh_not (c : Int) (h0 : 0 ≤ c ∧ c ≤ 4) (h4 : ¬ c = 4) : whS c = ⟨#[122, 101, 114, 111]⟩ ∨ whS c = ⟨#[102, 105, 110, 105, 116, 101]⟩ ∨ whS c = ⟨#[105, 110, 102, 105, 110, 105, 116, 101]⟩ := by
  have : c = 0 ∨ c = 1 ∨ c = 2 ∨ c = 3 := by omega
  rcases this with rfl | rfl | rfl | rfl
  · exact .inl rfl
  · exact .inr (.inl rfl)
  · exact .inr (.inl rfl)
  · exact .inr (.inr rfl)

set_option maxHeartbeats 4000000 in
theorem rCompare_4a (k W D E a b : Int) (hk : KK k W D E) (ha : okB W a = true) (hb' : okB W b = true) (c : cls D (siz W a) = 4) (w : World) :
    Calls Tryd.prog 27 #[.int .i64 k, .int .i64 a, .int .i64 b] w fun e w' => e = .returned (.tuple #[.int .i64 (cmpF W D a b), .int .i64 0]) ∧ Below w.heap.size w w' := by
  have H := Lib.hid (fun w' => rasked_c k W D E 0 a b hk (.inl rfl) w')
  rw [show (okB W a && okB W b) = true by rw [ha, hb']; rfl] at H
  have h := hk.kl
  have Hk := Lib.hid hk
  have Hva := Lib.hid ha
  have Hvb := Lib.hid hb'
  clear hk ha hb'
  have hwh : whS (cls D (siz W a)) = ⟨#[110, 111, 110, 101]⟩ := by rw [c]; rfl
  have hN := Lib.hid (show cmpF W D a b = 2 by unfold cmpF; rw [if_pos (.inl c)])
  clear c
  go_enter Tryd.func27, Tryd.ntmps27
  go_wp2_with fail
  refine (H.out _).mono ?_
  rintro e w0 ⟨rfl, rfl⟩
  go_wp2_with fail
  refine (taken_c k W D E a Hk.out Hva.out _).mono ?_
  rintro e w1 ⟨v0, rfl, hown, hb⟩
  obtain ⟨ad, ln, cp, hv0⟩ := own_slice hown
  subst hv0
  clear hown
  have hB := hb
  go_wp2_with fail
  refine (taken_c k W D E b Hk.out Hvb.out _).mono ?_
  rintro e w2 ⟨v0, rfl, hown, hb⟩
  obtain ⟨ad2, ln2, cp2, hv0⟩ := own_slice hown
  subst hv0
  clear hown
  have hB := bt hB hb
  go_wp2
  go_ret2
  exact ⟨by rw [hN.out]; rfl, (hB.alloc hB.size _).alloc (hB.alloc hB.size _).size _⟩

set_option maxHeartbeats 4000000 in
theorem rCompare_4b (k W D E a b : Int) (hk : KK k W D E) (ha : okB W a = true) (hb' : okB W b = true) (ca : ¬ cls D (siz W a) = 4) (c : cls D (siz W b) = 4) (w : World) :
    Calls Tryd.prog 27 #[.int .i64 k, .int .i64 a, .int .i64 b] w fun e w' => e = .returned (.tuple #[.int .i64 (cmpF W D a b), .int .i64 0]) ∧ Below w.heap.size w w' := by
  have H := Lib.hid (fun w' => rasked_c k W D E 0 a b hk (.inl rfl) w')
  rw [show (okB W a && okB W b) = true by rw [ha, hb']; rfl] at H
  have h := hk.kl
  have Hk := Lib.hid hk
  have Hva := Lib.hid ha
  have Hvb := Lib.hid hb'
  clear hk ha hb'
  have hwb : whS (cls D (siz W b)) = ⟨#[110, 111, 110, 101]⟩ := by rw [c]; rfl
  have hN := Lib.hid (show cmpF W D a b = 2 by unfold cmpF; rw [if_pos (.inr c)])
  have hwa := wh_not _ (cls_nn D (siz W a)) ca
  clear c ca
  rcases hwa with hwa | hwa | hwa
  all_goals
    go_enter Tryd.func27, Tryd.ntmps27
    go_wp2_with fail
    refine (H.out _).mono ?_
    rintro e w0 ⟨rfl, rfl⟩
    go_wp2_with fail
    refine (taken_c k W D E a Hk.out Hva.out _).mono ?_
    rintro e w1 ⟨v0, rfl, hown, hb⟩
    obtain ⟨ad, ln, cp, hv0⟩ := own_slice hown
    subst hv0
    clear hown
    have hB := hb
    go_wp2_with fail
    refine (taken_c k W D E b Hk.out Hvb.out _).mono ?_
    rintro e w2 ⟨v0, rfl, hown, hb⟩
    obtain ⟨ad2, ln2, cp2, hv0⟩ := own_slice hown
    subst hv0
    clear hown
    have hB := bt hB hb
    go_wp2
    go_ret2
    exact ⟨by rw [hN.out]; rfl, (hB.alloc hB.size _).alloc (hB.alloc hB.size _).size _⟩

set_option maxHeartbeats 16000000 in
theorem rCompare_n (k W D E a b : Int) (hk : KK k W D E) (ha : okB W a = true) (hb' : okB W b = true) (ca : ¬ cls D (siz W a) = 4) (cb : ¬ cls D (siz W b) = 4) (sa sb : Bool) (hsa : (sgn W a == 1) = sa) (hsb : (sgn W b == 1) = sb) (w : World) :
    Calls Tryd.prog 27 #[.int .i64 k, .int .i64 a, .int .i64 b] w fun e w' => e = .returned (.tuple #[.int .i64 (cmpF W D a b), .int .i64 0]) ∧ Below w.heap.size w w' := by
  have H := Lib.hid (fun w' => rasked_c k W D E 0 a b hk (.inl rfl) w')
  rw [show (okB W a && okB W b) = true by rw [ha, hb']; rfl] at H
  have h := hk.kl
  have Hk := Lib.hid hk
  have Hva := Lib.hid ha
  have Hvb := Lib.hid hb'
  clear hk ha hb'
  have hN := Lib.hid (cmpF_lt W D a b ca cb)
  have hwa := wh_not _ (cls_nn D (siz W a)) ca
  have hwb := wh_not _ (cls_nn D (siz W b)) cb
  have hra : rS W D a = sgn W a := by unfold rS; rw [if_neg ca]
  have hrb : rS W D b = sgn W b := by unfold rS; rw [if_neg cb]
  have pa := Lib.hid (show placeF W a = if sa = true then -(siz W a) else siz W a by unfold placeF; subst hsa; simp)
  have pb := Lib.hid (show placeF W b = if sb = true then -(siz W b) else siz W b by unfold placeF; subst hsb; simp)
  obtain ⟨z0, z1⟩ := siz_63 W D E a h
  obtain ⟨y0, y1⟩ := siz_63 W D E b h
  clear ca cb
  cases sa <;> cases sb <;> rcases hwa with hwa | hwa | hwa <;> rcases hwb with hwb | hwb | hwb
  all_goals
    go_enter Tryd.func27, Tryd.ntmps27
    go_wp2_with fail
    refine (H.out _).mono ?_
    rintro e w0 ⟨rfl, rfl⟩
    go_wp2_with fail
    refine (taken_c k W D E a Hk.out Hva.out _).mono ?_
    rintro e w1 ⟨v0, rfl, hown, hb⟩
    obtain ⟨ad, ln, cp, hv0⟩ := own_slice hown
    subst hv0
    clear hown
    have hB := hb
    go_wp2_with fail
    refine (taken_c k W D E b Hk.out Hvb.out _).mono ?_
    rintro e w2 ⟨v0, rfl, hown, hb⟩
    obtain ⟨ad2, ln2, cp2, hv0⟩ := own_slice hown
    subst hv0
    clear hown
    have hB := bt hB hb
    go_wp2_with fail
    refine (rsize_c k W D E a Hk.out _).mono ?_
    rintro e w3 ⟨rfl, rfl⟩
    go_wp2_with fail
    refine (rsize_c k W D E b Hk.out _).mono ?_
    rintro e w3 ⟨rfl, rfl⟩
    have hp := pa.out
    have hq := pb.out
    simp only [if_true, if_false, Bool.false_eq_true] at hp hq
    have Hp := Lib.hid hp
    have Hq := Lib.hid hq
    clear hp hq pa pb
    go_wp2
    all_goals
      go_ret2
      refine ⟨?_, (hB.alloc hB.size _).alloc (hB.alloc hB.size _).size _⟩
      rw [hN.out, Hp.out, Hq.out]
      unfold cmpI
      first
        | (rw [if_pos (by omega)]; rfl)
        | (rw [if_neg (by omega), if_pos (by omega)]; rfl)
        | (rw [if_neg (by omega), if_neg (by omega)]; rfl)
        | (trace_state; fail)

theorem rCompare_c (k W D E a b : Int) (hk : KK k W D E) (ha : okB W a = true) (hb' : okB W b = true) (w : World) :
    Calls Tryd.prog 27 #[.int .i64 k, .int .i64 a, .int .i64 b] w fun e w' => e = .returned (.tuple #[.int .i64 (cmpF W D a b), .int .i64 0]) ∧ Below w.heap.size w w' := by
  by_cases ca : cls D (siz W a) = 4
  · exact rCompare_4a k W D E a b hk ha hb' ca w
  by_cases cb : cls D (siz W b) = 4
  · exact rCompare_4b k W D E a b hk ha hb' ca cb w
  · exact rCompare_n k W D E a b hk ha hb' ca cb _ _ rfl rfl w
end Go.Proofs.YtfdenbgmogojeaaDoor
