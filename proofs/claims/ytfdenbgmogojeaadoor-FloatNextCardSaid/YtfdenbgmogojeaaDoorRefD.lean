/- Contracts of quadratref01's Next and Compare for every kind and float: they return what the code's return. -/
import Derived.Test.YtfdenbgmogojeaaDoorRefB
import Derived.Test.YtfdenbgmogojeaaDoorRefC
namespace Go.Proofs.YtfdenbgmogojeaaDoor
open Go.RowKit

theorem dec_eq (W D E a : Int) (h : KL W D E) (hv : okB W a = true) (hi : I64 a) (_hz : 1 ≤ siz W a) : wrap64 (IntKind.u64.wrap (IntKind.u64.wrap a - 1)) = jn W (sgn W a) (siz W a - 1) := by
  have he := jn_eta W D E a h hv hi
  obtain ⟨z0, z1⟩ := siz_b W D E a h
  have hs := sgn_s W a
  generalize siz W a = z at *
  generalize sgn W a = s at *
  subst he
  have hW : W = 16 ∨ W = 32 ∨ W = 64 := by rcases h with ⟨e, _⟩ | ⟨e, _⟩ | ⟨e, _⟩ <;> simp [e]
  rcases hW with rfl | rfl | rfl <;> rcases hs with rfl | rfl <;> (rw [IntKind.wrap_u64, IntKind.wrap_u64]; unfold wrap64 jn; simp only [hf16, hf32, hf64] at *; omega)
theorem inc_eq (W D E a : Int) (h : KL W D E) (hv : okB W a = true) (hi : I64 a) (hz : siz W a + 1 < hf W) : wrap64 (IntKind.u64.wrap (IntKind.u64.wrap a + 1)) = jn W (sgn W a) (siz W a + 1) := by
  have he := jn_eta W D E a h hv hi
  obtain ⟨z0, z1⟩ := siz_b W D E a h
  have hs := sgn_s W a
  generalize siz W a = z at *
  generalize sgn W a = s at *
  subst he
  have hW : W = 16 ∨ W = 32 ∨ W = 64 := by rcases h with ⟨e, _⟩ | ⟨e, _⟩ | ⟨e, _⟩ <;> simp [e]
  rcases hW with rfl | rfl | rfl <;> rcases hs with rfl | rfl <;> (rw [IntKind.wrap_u64, IntKind.wrap_u64]; unfold wrap64 jn; simp only [hf16, hf32, hf64] at *; omega)

set_option maxHeartbeats 2000000 in
theorem rNext_4 (k W D E a : Int) (up : Bool) (hk : KK k W D E) (hv : okB W a = true) (hi : I64 a) (c : cls D (siz W a) = 4) (w : World) :
    Calls Tryd.prog 47 #[.int .i64 k, .int .i64 a, .bool up] w fun e w' => e = .returned (.tuple #[.int .i64 (nextF W D a up), .int .i64 0]) ∧ Below w.heap.size w w' := by
  have h := hk.kl
  have Hk := Lib.hid hk
  have Hv := Lib.hid hv
  have Hi := Lib.hid hi
  have hwh : whS (cls D (siz W a)) = ⟨#[110, 111, 110, 101]⟩ := by rw [c]; rfl
  have hN := Lib.hid (show nextF W D a up = jn W 0 (qz D) by unfold nextF; rw [if_pos c])
  clear c
  clear hk hv hi
  cases up
  all_goals
    go_enter Tryd.func47, Tryd.ntmps47
    go_wp2_with fail
    refine (rValid_c k W D E a Hk.out _).mono ?_
    rw [Hv.out]
    rintro e w0 ⟨rfl, rfl⟩
    go_wp2_with fail
    refine (taken_c k W D E a Hk.out Hv.out _).mono ?_
    rintro e w1 ⟨v0, rfl, hown, hb⟩
    obtain ⟨ad, ln, cp, hv0⟩ := own_slice hown
    subst hv0
    clear hown
    go_wp2_with fail
    refine (rQuiet_c k W D E Hk.out _).mono ?_
    rintro e w2 ⟨rfl, hb2⟩
    go_wp2
    go_ret2
    exact ⟨by rw [hN.out]; rfl, bt (hb.alloc hb.size _) hb2⟩

set_option maxHeartbeats 2000000 in
theorem rNext_0 (k W D E a : Int) (up : Bool) (hk : KK k W D E) (hv : okB W a = true) (hi : I64 a) (c : cls D (siz W a) = 0) (w : World) :
    Calls Tryd.prog 47 #[.int .i64 k, .int .i64 a, .bool up] w fun e w' => e = .returned (.tuple #[.int .i64 (nextF W D a up), .int .i64 0]) ∧ Below w.heap.size w w' := by
  have h := hk.kl
  have Hk := Lib.hid hk
  have Hv := Lib.hid hv
  have Hi := Lib.hid hi
  have hwh : whS (cls D (siz W a)) = ⟨#[122, 101, 114, 111]⟩ := by rw [c]; rfl
  have hN := Lib.hid (show nextF W D a up = jn W (side up) 1 by unfold nextF; rw [if_neg (by omega), if_pos c])
  have hbits := Lib.hid (fun w' => rbits_c k W D E (side up) 0 1 Hk.out (side01 up) (by omega) (by have := (one_b h).2; omega) (by omega) (by have := (hid_b W D E h).1; omega) w')
  rw [show (0 : Int) * hid D + 1 = 1 by omega] at hbits
  clear c
  clear hk hv hi
  cases up
  all_goals
    go_enter Tryd.func47, Tryd.ntmps47
    go_wp2_with fail
    refine (rValid_c k W D E a Hk.out _).mono ?_
    rw [Hv.out]
    rintro e w0 ⟨rfl, rfl⟩
    go_wp2_with fail
    refine (taken_c k W D E a Hk.out Hv.out _).mono ?_
    rintro e w1 ⟨v0, rfl, hown, hb⟩
    obtain ⟨ad, ln, cp, hv0⟩ := own_slice hown
    subst hv0
    clear hown
    go_wp2_with fail
    refine (hbits.out _).mono ?_
    rintro e w2 ⟨rfl, hb2⟩
    go_wp2
    go_ret2
    exact ⟨by rw [hN.out]; rfl, bt (hb.alloc hb.size _) hb2⟩

set_option maxHeartbeats 2000000 in
theorem rNext_d1 (k W D E a : Int) (up : Bool) (hk : KK k W D E) (hv : okB W a = true) (hi : I64 a) (c : cls D (siz W a) = 1) (cs : sgn W a ≠ side up) (w : World) :
    Calls Tryd.prog 47 #[.int .i64 k, .int .i64 a, .bool up] w fun e w' => e = .returned (.tuple #[.int .i64 (nextF W D a up), .int .i64 0]) ∧ Below w.heap.size w w' := by
  have h := hk.kl
  have Hk := Lib.hid hk
  have Hv := Lib.hid hv
  have Hi := Lib.hid hi
  have hwh : whS (cls D (siz W a)) = ⟨#[102, 105, 110, 105, 116, 101]⟩ := by rw [c]; rfl
  have hz := cls_pos (siz_b W D E a h).1 (show ¬ cls D (siz W a) = 0 by omega)
  have hN := Lib.hid (show nextF W D a up = jn W (sgn W a) (siz W a - 1) by unfold nextF; rw [if_neg (by omega), if_neg (by omega), if_pos cs]; congr 1; have := sgn_s W a; have := side01 up; unfold Sgn at *; omega)
  have hD := Lib.hid (dec_eq W D E a h Hv.out Hi.out hz)
  have hrs : rS W D a = sgn W a := by unfold rS; rw [if_neg (by omega)]
  have es : (sgn W a != side up) = true := by simp [cs]
  simp only [side] at es
  clear c cs hz
  clear hk hv hi
  cases up
  all_goals
    go_enter Tryd.func47, Tryd.ntmps47
    go_wp2_with fail
    refine (rValid_c k W D E a Hk.out _).mono ?_
    rw [Hv.out]
    rintro e w0 ⟨rfl, rfl⟩
    go_wp2_with fail
    refine (taken_c k W D E a Hk.out Hv.out _).mono ?_
    rintro e w1 ⟨v0, rfl, hown, hb⟩
    obtain ⟨ad, ln, cp, hv0⟩ := own_slice hown
    subst hv0
    clear hown
    simp only [if_true, if_false, Bool.false_eq_true] at es
    go_wp2
    go_ret2
    exact ⟨by rw [hN.out, ← hD.out]; rfl, hb.alloc hb.size _⟩

set_option maxHeartbeats 2000000 in
theorem rNext_d2 (k W D E a : Int) (up : Bool) (hk : KK k W D E) (hv : okB W a = true) (hi : I64 a) (c : cls D (siz W a) = 2) (cs : sgn W a ≠ side up) (w : World) :
    Calls Tryd.prog 47 #[.int .i64 k, .int .i64 a, .bool up] w fun e w' => e = .returned (.tuple #[.int .i64 (nextF W D a up), .int .i64 0]) ∧ Below w.heap.size w w' := by
  have h := hk.kl
  have Hk := Lib.hid hk
  have Hv := Lib.hid hv
  have Hi := Lib.hid hi
  have hwh : whS (cls D (siz W a)) = ⟨#[102, 105, 110, 105, 116, 101]⟩ := by rw [c]; rfl
  have hz := cls_pos (siz_b W D E a h).1 (show ¬ cls D (siz W a) = 0 by omega)
  have hN := Lib.hid (show nextF W D a up = jn W (sgn W a) (siz W a - 1) by unfold nextF; rw [if_neg (by omega), if_neg (by omega), if_pos cs]; congr 1; have := sgn_s W a; have := side01 up; unfold Sgn at *; omega)
  have hD := Lib.hid (dec_eq W D E a h Hv.out Hi.out hz)
  have hrs : rS W D a = sgn W a := by unfold rS; rw [if_neg (by omega)]
  have es : (sgn W a != side up) = true := by simp [cs]
  simp only [side] at es
  clear c cs hz
  clear hk hv hi
  cases up
  all_goals
    go_enter Tryd.func47, Tryd.ntmps47
    go_wp2_with fail
    refine (rValid_c k W D E a Hk.out _).mono ?_
    rw [Hv.out]
    rintro e w0 ⟨rfl, rfl⟩
    go_wp2_with fail
    refine (taken_c k W D E a Hk.out Hv.out _).mono ?_
    rintro e w1 ⟨v0, rfl, hown, hb⟩
    obtain ⟨ad, ln, cp, hv0⟩ := own_slice hown
    subst hv0
    clear hown
    simp only [if_true, if_false, Bool.false_eq_true] at es
    go_wp2
    go_ret2
    exact ⟨by rw [hN.out, ← hD.out]; rfl, hb.alloc hb.size _⟩

set_option maxHeartbeats 2000000 in
theorem rNext_d3 (k W D E a : Int) (up : Bool) (hk : KK k W D E) (hv : okB W a = true) (hi : I64 a) (c : cls D (siz W a) = 3) (cs : sgn W a ≠ side up) (w : World) :
    Calls Tryd.prog 47 #[.int .i64 k, .int .i64 a, .bool up] w fun e w' => e = .returned (.tuple #[.int .i64 (nextF W D a up), .int .i64 0]) ∧ Below w.heap.size w w' := by
  have h := hk.kl
  have Hk := Lib.hid hk
  have Hv := Lib.hid hv
  have Hi := Lib.hid hi
  have hwh : whS (cls D (siz W a)) = ⟨#[105, 110, 102, 105, 110, 105, 116, 101]⟩ := by rw [c]; rfl
  have hz := cls_pos (siz_b W D E a h).1 (show ¬ cls D (siz W a) = 0 by omega)
  have hN := Lib.hid (show nextF W D a up = jn W (sgn W a) (siz W a - 1) by unfold nextF; rw [if_neg (by omega), if_neg (by omega), if_pos cs]; congr 1; have := sgn_s W a; have := side01 up; unfold Sgn at *; omega)
  have hD := Lib.hid (dec_eq W D E a h Hv.out Hi.out hz)
  have hrs : rS W D a = sgn W a := by unfold rS; rw [if_neg (by omega)]
  have es : (sgn W a != side up) = true := by simp [cs]
  simp only [side] at es
  clear c cs hz
  clear hk hv hi
  cases up
  all_goals
    go_enter Tryd.func47, Tryd.ntmps47
    go_wp2_with fail
    refine (rValid_c k W D E a Hk.out _).mono ?_
    rw [Hv.out]
    rintro e w0 ⟨rfl, rfl⟩
    go_wp2_with fail
    refine (taken_c k W D E a Hk.out Hv.out _).mono ?_
    rintro e w1 ⟨v0, rfl, hown, hb⟩
    obtain ⟨ad, ln, cp, hv0⟩ := own_slice hown
    subst hv0
    clear hown
    simp only [if_true, if_false, Bool.false_eq_true] at es
    go_wp2
    go_ret2
    exact ⟨by rw [hN.out, ← hD.out]; rfl, hb.alloc hb.size _⟩

set_option maxHeartbeats 2000000 in
theorem rNext_3s (k W D E a : Int) (up : Bool) (hk : KK k W D E) (hv : okB W a = true) (hi : I64 a) (c : cls D (siz W a) = 3) (cs : ¬ sgn W a ≠ side up) (w : World) :
    Calls Tryd.prog 47 #[.int .i64 k, .int .i64 a, .bool up] w fun e w' => e = .returned (.tuple #[.int .i64 (nextF W D a up), .int .i64 0]) ∧ Below w.heap.size w w' := by
  have h := hk.kl
  have Hk := Lib.hid hk
  have Hv := Lib.hid hv
  have Hi := Lib.hid hi
  have hwh : whS (cls D (siz W a)) = ⟨#[105, 110, 102, 105, 110, 105, 116, 101]⟩ := by rw [c]; rfl
  have hN := Lib.hid (show nextF W D a up = a by unfold nextF; rw [if_neg (by omega), if_neg (by omega), if_neg cs, if_pos c])
  have hrs : rS W D a = sgn W a := by unfold rS; rw [if_neg (by omega)]
  have es : (sgn W a != side up) = false := by simpa using cs
  simp only [side] at es
  clear c cs
  clear hk hv hi
  cases up
  all_goals
    go_enter Tryd.func47, Tryd.ntmps47
    go_wp2_with fail
    refine (rValid_c k W D E a Hk.out _).mono ?_
    rw [Hv.out]
    rintro e w0 ⟨rfl, rfl⟩
    go_wp2_with fail
    refine (taken_c k W D E a Hk.out Hv.out _).mono ?_
    rintro e w1 ⟨v0, rfl, hown, hb⟩
    obtain ⟨ad, ln, cp, hv0⟩ := own_slice hown
    subst hv0
    clear hown
    simp only [if_true, if_false, Bool.false_eq_true] at es
    go_wp2
    go_ret2
    exact ⟨by rw [hN.out]; rfl, hb.alloc hb.size _⟩

set_option maxHeartbeats 2000000 in
theorem rNext_u1 (k W D E a : Int) (up : Bool) (hk : KK k W D E) (hv : okB W a = true) (hi : I64 a) (c : cls D (siz W a) = 1) (cs : ¬ sgn W a ≠ side up) (w : World) :
    Calls Tryd.prog 47 #[.int .i64 k, .int .i64 a, .bool up] w fun e w' => e = .returned (.tuple #[.int .i64 (nextF W D a up), .int .i64 0]) ∧ Below w.heap.size w w' := by
  have h := hk.kl
  have Hk := Lib.hid hk
  have Hv := Lib.hid hv
  have Hi := Lib.hid hi
  have hwh : whS (cls D (siz W a)) = ⟨#[102, 105, 110, 105, 116, 101]⟩ := by rw [c]; rfl
  have hz : siz W a + 1 < hf W := by have := cls_lt h (show ¬ cls D (siz W a) = 4 by omega); have := hf_b h; omega
  have hN := Lib.hid (show nextF W D a up = jn W (sgn W a) (siz W a + 1) by unfold nextF; rw [if_neg (by omega), if_neg (by omega), if_neg cs, if_neg (by omega)]; congr 1; omega)
  have hD := Lib.hid (inc_eq W D E a h Hv.out Hi.out hz)
  have hrs : rS W D a = sgn W a := by unfold rS; rw [if_neg (by omega)]
  have es : (sgn W a != side up) = false := by simpa using cs
  simp only [side] at es
  clear c cs hz
  clear hk hv hi
  cases up
  all_goals
    go_enter Tryd.func47, Tryd.ntmps47
    go_wp2_with fail
    refine (rValid_c k W D E a Hk.out _).mono ?_
    rw [Hv.out]
    rintro e w0 ⟨rfl, rfl⟩
    go_wp2_with fail
    refine (taken_c k W D E a Hk.out Hv.out _).mono ?_
    rintro e w1 ⟨v0, rfl, hown, hb⟩
    obtain ⟨ad, ln, cp, hv0⟩ := own_slice hown
    subst hv0
    clear hown
    simp only [if_true, if_false, Bool.false_eq_true] at es
    go_wp2
    go_ret2
    exact ⟨by rw [hN.out, ← hD.out]; rfl, hb.alloc hb.size _⟩

set_option maxHeartbeats 2000000 in
theorem rNext_u2 (k W D E a : Int) (up : Bool) (hk : KK k W D E) (hv : okB W a = true) (hi : I64 a) (c : cls D (siz W a) = 2) (cs : ¬ sgn W a ≠ side up) (w : World) :
    Calls Tryd.prog 47 #[.int .i64 k, .int .i64 a, .bool up] w fun e w' => e = .returned (.tuple #[.int .i64 (nextF W D a up), .int .i64 0]) ∧ Below w.heap.size w w' := by
  have h := hk.kl
  have Hk := Lib.hid hk
  have Hv := Lib.hid hv
  have Hi := Lib.hid hi
  have hwh : whS (cls D (siz W a)) = ⟨#[102, 105, 110, 105, 116, 101]⟩ := by rw [c]; rfl
  have hz : siz W a + 1 < hf W := by have := cls_lt h (show ¬ cls D (siz W a) = 4 by omega); have := hf_b h; omega
  have hN := Lib.hid (show nextF W D a up = jn W (sgn W a) (siz W a + 1) by unfold nextF; rw [if_neg (by omega), if_neg (by omega), if_neg cs, if_neg (by omega)]; congr 1; omega)
  have hD := Lib.hid (inc_eq W D E a h Hv.out Hi.out hz)
  have hrs : rS W D a = sgn W a := by unfold rS; rw [if_neg (by omega)]
  have es : (sgn W a != side up) = false := by simpa using cs
  simp only [side] at es
  clear c cs hz
  clear hk hv hi
  cases up
  all_goals
    go_enter Tryd.func47, Tryd.ntmps47
    go_wp2_with fail
    refine (rValid_c k W D E a Hk.out _).mono ?_
    rw [Hv.out]
    rintro e w0 ⟨rfl, rfl⟩
    go_wp2_with fail
    refine (taken_c k W D E a Hk.out Hv.out _).mono ?_
    rintro e w1 ⟨v0, rfl, hown, hb⟩
    obtain ⟨ad, ln, cp, hv0⟩ := own_slice hown
    subst hv0
    clear hown
    simp only [if_true, if_false, Bool.false_eq_true] at es
    go_wp2
    go_ret2
    exact ⟨by rw [hN.out, ← hD.out]; rfl, hb.alloc hb.size _⟩

theorem rNext_c (k W D E a : Int) (up : Bool) (hk : KK k W D E) (hv : okB W a = true) (hi : I64 a) (w : World) :
    Calls Tryd.prog 47 #[.int .i64 k, .int .i64 a, .bool up] w fun e w' => e = .returned (.tuple #[.int .i64 (nextF W D a up), .int .i64 0]) ∧ Below w.heap.size w w' := by
  have hb := cls_nn D (siz W a)
  have hc : cls D (siz W a) = 0 ∨ cls D (siz W a) = 1 ∨ cls D (siz W a) = 2 ∨ cls D (siz W a) = 3 ∨ cls D (siz W a) = 4 := by omega
  by_cases cs : sgn W a ≠ side up
  · rcases hc with c | c | c | c | c
    · exact rNext_0 k W D E a up hk hv hi c w
    · exact rNext_d1 k W D E a up hk hv hi c cs w
    · exact rNext_d2 k W D E a up hk hv hi c cs w
    · exact rNext_d3 k W D E a up hk hv hi c cs w
    · exact rNext_4 k W D E a up hk hv hi c w
  · rcases hc with c | c | c | c | c
    · exact rNext_0 k W D E a up hk hv hi c w
    · exact rNext_u1 k W D E a up hk hv hi c cs w
    · exact rNext_u2 k W D E a up hk hv hi c cs w
    · exact rNext_3s k W D E a up hk hv hi c cs w
    · exact rNext_4 k W D E a up hk hv hi c w

set_option maxHeartbeats 1000000 in
theorem rNext_out (k W D E a : Int) (up : Bool) (hk : KK k W D E) (hv : okB W a = false) (w : World) :
    Calls Tryd.prog 47 #[.int .i64 k, .int .i64 a, .bool up] w fun e w' => e = .returned (.tuple #[.int .i64 0, .int .i64 2]) ∧ Below w.heap.size w w' := by
  have Hk := Lib.hid hk; clear hk
  go_enter Tryd.func47, Tryd.ntmps47
  go_wp2_with fail
  refine (rValid_c k W D E a Hk.out _).mono ?_
  rw [hv]
  rintro e w0 ⟨rfl, rfl⟩
  go_wp2
  go_ret2
  exact ⟨rfl, Below.refl _ _⟩
set_option maxHeartbeats 1000000 in
theorem rNext_no (k a : Int) (up : Bool) (h2 : (k == 2) = false) (h4 : (k == 4) = false) (h8 : (k == 8) = false) (w : World) :
    Calls Tryd.prog 47 #[.int .i64 k, .int .i64 a, .bool up] w fun e w' => e = .returned (.tuple #[.int .i64 0, .int .i64 2]) ∧ Below w.heap.size w w' := by
  have H := Lib.hid (fun w' => rValid_no k a h2 h4 h8 w')
  go_enter Tryd.func47, Tryd.ntmps47
  go_wp2_with fail
  refine (H.out _).mono ?_
  rintro e w0 ⟨rfl, rfl⟩
  go_wp2
  go_ret2
  exact ⟨rfl, Below.refl _ _⟩
end Go.Proofs.YtfdenbgmogojeaaDoor
