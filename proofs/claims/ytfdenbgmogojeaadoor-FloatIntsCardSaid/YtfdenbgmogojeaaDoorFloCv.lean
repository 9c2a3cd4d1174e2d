/- Contract of package float's Convert for every input: errors, no numbers, infinite ones, zeros, and the rounded float. -/
import Derived.Test.YtfdenbgmogojeaaDoorFloMk
namespace Go.Proofs.YtfdenbgmogojeaaDoor
open Go.RowKit

def NoK (k : Int) : Prop := (k == 2) = false ∧ (k == 4) = false ∧ (k == 8) = false
theorem mant_pos (W D E a : Int) (h : KL W D E) (hc : cls D (siz W a) = 1 ∨ cls D (siz W a) = 2) : 0 < mant D (siz W a) := by
  obtain ⟨z0, z1⟩ := siz_b W D E a h
  obtain ⟨m0, _, m2⟩ := mant_b W D E _ h z0 z1
  have hb := hid_b W D E h
  rcases hc with c | c
  · have hz : 0 < siz W a ∧ siz W a < hid D := by
      unfold cls at c
      repeat' split at c
      all_goals first | omega | cases c
    unfold mant; rw [if_pos (by omega)]; omega
  · have := m2 c; omega

set_option maxHeartbeats 1000000 in
theorem Convert_nof (f t mode a : Int) (hf : NoK f) (ht : NoK t ∨ ∃ W D E, KK t W D E) (w : World) :
    Calls Tryd.prog 34 #[.int .i64 f, .int .i64 t, .int .i64 mode, .int .i64 a] w fun e w' => e = .returned (.tuple #[.int .i64 0, .int .i64 0, .int .i64 2]) ∧ Below w.heap.size w w' := by
  obtain ⟨h2, h4, h8⟩ := hf
  go_enter Tryd.func34, Tryd.ntmps34
  go_wp2_with fail
  refine (layoutOf_no f h2 h4 h8 _).mono ?_
  rintro e wa ⟨rfl, hb⟩
  have hB := hb.alloc hb.size (.cells #[.int .i64 0, .int .i64 0, .int .i64 0] 48)
  clear h2 h4 h8
  go_wp2_with fail
  rcases ht with ⟨h2, h4, h8⟩ | ⟨W, D, E, hk⟩
  · refine (layoutOf_no t h2 h4 h8 _).mono ?_
    rintro e wb ⟨rfl, hb⟩
    have hB := bt hB hb
    have hB := hB.alloc hB.size (.cells #[.int .i64 0, .int .i64 0, .int .i64 0] 48)
    go_wp2
    go_ret3
    exact ⟨rfl, hB⟩
  · refine (layoutOf_c t W D E hk _).mono ?_
    rintro e wb ⟨rfl, hb⟩
    have hB := bt hB hb
    have hB := hB.alloc hB.size (.cells #[.int .i64 W, .int .i64 D, .int .i64 E] 48)
    go_wp2
    go_ret3
    exact ⟨rfl, hB⟩

set_option maxHeartbeats 1000000 in
theorem Convert_not (f Wf Df Ef t mode a : Int) (hk : KK f Wf Df Ef) (ht : NoK t) (w : World) :
    Calls Tryd.prog 34 #[.int .i64 f, .int .i64 t, .int .i64 mode, .int .i64 a] w fun e w' => e = .returned (.tuple #[.int .i64 0, .int .i64 0, .int .i64 2]) ∧ Below w.heap.size w w' := by
  have Hf := Lib.hid hk; clear hk
  obtain ⟨h2, h4, h8⟩ := ht
  go_enter Tryd.func34, Tryd.ntmps34
  go_wp2_with fail
  refine (layoutOf_c f Wf Df Ef Hf.out _).mono ?_
  rintro e wa ⟨rfl, hb⟩
  have hB := hb.alloc hb.size (.cells #[.int .i64 Wf, .int .i64 Df, .int .i64 Ef] 48)
  have hL := Has.new wa [.int .i64 Wf, .int .i64 Df, .int .i64 Ef] 48
  go_wp2_with fail
  refine (layoutOf_no t h2 h4 h8 _).mono ?_
  rintro e wb ⟨rfl, hb⟩
  have hB := bt hB hb
  have hB := hB.alloc hB.size (.cells #[.int .i64 0, .int .i64 0, .int .i64 0] 48)
  go_wp2
  go_ret3
  exact ⟨rfl, hB⟩

set_option maxHeartbeats 1000000 in
theorem Convert_mode (f Wf Df Ef t W D E mode a : Int) (hkf : KK f Wf Df Ef) (hkt : KK t W D E) (hm : ¬ Mode mode) (w : World) :
    Calls Tryd.prog 34 #[.int .i64 f, .int .i64 t, .int .i64 mode, .int .i64 a] w fun e w' => e = .returned (.tuple #[.int .i64 0, .int .i64 0, .int .i64 2]) ∧ Below w.heap.size w w' := by
  have Hf := Lib.hid hkf; clear hkf
  have Ht := Lib.hid hkt; clear hkt
  have Hm := Lib.hid hm; clear hm
  go_enter Tryd.func34, Tryd.ntmps34
  go_wp2_with fail
  refine (layoutOf_c f Wf Df Ef Hf.out _).mono ?_
  rintro e wa ⟨rfl, hb⟩
  have hB := hb.alloc hb.size (.cells #[.int .i64 Wf, .int .i64 Df, .int .i64 Ef] 48)
  have hL := Has.new wa [.int .i64 Wf, .int .i64 Df, .int .i64 Ef] 48
  go_wp2_with fail
  refine (layoutOf_c t W D E Ht.out _).mono ?_
  rintro e wb ⟨rfl, hb⟩
  have hB := bt hB hb
  have hL := hL.keep hb
  have hB := hB.alloc hB.size (.cells #[.int .i64 W, .int .i64 D, .int .i64 E] 48)
  have hL := hL.alloc (.cells #[.int .i64 W, .int .i64 D, .int .i64 E] 48)
  have hT := Has.new wb [.int .i64 W, .int .i64 D, .int .i64 E] 48
  go_wp2_with fail
  refine (isMode_no mode Hm.out _).mono ?_
  rintro e w1 ⟨rfl, rfl⟩
  go_wp2
  go_ret3
  exact ⟨rfl, hB⟩

set_option maxHeartbeats 1000000 in
theorem Convert_out (f Wf Df Ef t W D E mode a : Int) (hkf : KK f Wf Df Ef) (hkt : KK t W D E) (hm : Mode mode) (hv : okB Wf a = false) (w : World) :
    Calls Tryd.prog 34 #[.int .i64 f, .int .i64 t, .int .i64 mode, .int .i64 a] w fun e w' => e = .returned (.tuple #[.int .i64 0, .int .i64 0, .int .i64 2]) ∧ Below w.heap.size w w' := by
  have hkl := hkf.kl
  have Hf := Lib.hid hkf; clear hkf
  have Ht := Lib.hid hkt; clear hkt
  have Hm := Lib.hid hm; clear hm
  go_enter Tryd.func34, Tryd.ntmps34
  go_wp2_with fail
  refine (layoutOf_c f Wf Df Ef Hf.out _).mono ?_
  rintro e wa ⟨rfl, hb⟩
  have hB := hb.alloc hb.size (.cells #[.int .i64 Wf, .int .i64 Df, .int .i64 Ef] 48)
  have hL := Has.new wa [.int .i64 Wf, .int .i64 Df, .int .i64 Ef] 48
  go_wp2_with fail
  refine (layoutOf_c t W D E Ht.out _).mono ?_
  rintro e wb ⟨rfl, hb⟩
  have hB := bt hB hb
  have hL := hL.keep hb
  have hB := hB.alloc hB.size (.cells #[.int .i64 W, .int .i64 D, .int .i64 E] 48)
  have hL := hL.alloc (.cells #[.int .i64 W, .int .i64 D, .int .i64 E] 48)
  have hT := Has.new wb [.int .i64 W, .int .i64 D, .int .i64 E] 48
  go_wp2_with fail
  refine (isMode_c mode Hm.out _).mono ?_
  rintro e w1 ⟨rfl, rfl⟩
  obtain ⟨l0, l1, l2⟩ := hL.c3
  go_wp2_with fail
  refine (holds_c Wf Df Ef a hkl _).mono ?_
  rintro e w1 ⟨rfl, hb⟩
  have hB := bt hB hb
  have hL := hL.keep hb
  have hT := hT.keep hb
  obtain ⟨l0, l1, l2⟩ := hL.c3
  go_wp2
  go_ret3
  exact ⟨rfl, hB⟩

set_option maxHeartbeats 2000000 in
theorem Convert_none (f Wf Df Ef t W D E mode a : Int) (hkf : KK f Wf Df Ef) (hkt : KK t W D E) (hm : Mode mode) (hv : okB Wf a = true) (hc : cls Df (siz Wf a) = 4) (w : World) :
    Calls Tryd.prog 34 #[.int .i64 f, .int .i64 t, .int .i64 mode, .int .i64 a] w fun e w' => e = .returned (.tuple #[.int .i64 (jn W 0 (qz D)), .int .i64 0, .int .i64 0]) ∧ Below w.heap.size w w' := by
  have hkl := hkf.kl
  have h := hkt.kl
  have hs := sgn_s Wf a
  have Ho := Lib.hid (fun w' => open_c Wf Df Ef a hkl hv w')
  rw [hc] at Ho
  clear hc
  have Hf := Lib.hid hkf; clear hkf
  have Ht := Lib.hid hkt; clear hkt
  have Hm := Lib.hid hm; clear hm
  go_enter Tryd.func34, Tryd.ntmps34
  go_wp2_with fail
  refine (layoutOf_c f Wf Df Ef Hf.out _).mono ?_
  rintro e wa ⟨rfl, hb⟩
  have hB := hb.alloc hb.size (.cells #[.int .i64 Wf, .int .i64 Df, .int .i64 Ef] 48)
  have hL := Has.new wa [.int .i64 Wf, .int .i64 Df, .int .i64 Ef] 48
  go_wp2_with fail
  refine (layoutOf_c t W D E Ht.out _).mono ?_
  rintro e wb ⟨rfl, hb⟩
  have hB := bt hB hb
  have hL := hL.keep hb
  have hB := hB.alloc hB.size (.cells #[.int .i64 W, .int .i64 D, .int .i64 E] 48)
  have hL := hL.alloc (.cells #[.int .i64 W, .int .i64 D, .int .i64 E] 48)
  have hT := Has.new wb [.int .i64 W, .int .i64 D, .int .i64 E] 48
  go_wp2_with fail
  refine (isMode_c mode Hm.out _).mono ?_
  rintro e w1 ⟨rfl, rfl⟩
  obtain ⟨l0, l1, l2⟩ := hL.c3
  go_wp2_with fail
  refine (holds_c Wf Df Ef a hkl _).mono ?_
  rintro e w1 ⟨rfl, hb⟩
  have hB := bt hB hb
  have hL := hL.keep hb
  have hT := hT.keep hb
  obtain ⟨l0, l1, l2⟩ := hL.c3
  go_wp2_with fail
  refine (Ho.out _).mono ?_
  rintro e w2 ⟨rfl, hb⟩
  have hB := bt hB hb
  have hT := (hT.keep hb).alloc (.cells #[.int .i64 (4), .int .i64 (sgn Wf a), .int .u64 (mant Df (siz Wf a)), .int .i64 (expo Df (siz Wf a))] 70)
  have hX := Has.new w2 [.int .i64 (4), .int .i64 (sgn Wf a), .int .u64 (mant Df (siz Wf a)), .int .i64 (expo Df (siz Wf a))] 70
  have hB := hB.alloc hB.size (.cells #[.int .i64 (4), .int .i64 (sgn Wf a), .int .u64 (mant Df (siz Wf a)), .int .i64 (expo Df (siz Wf a))] 70)
  obtain ⟨x0, x1, x2, x3⟩ := hX.c4
  obtain ⟨t0, t1, t2⟩ := hT.c3
  go_wp2_with fail
  refine (quiet_c W D E h _).mono ?_
  rintro e w3 ⟨rfl, hb⟩
  have hB := bt hB hb
  go_wp2_with fail
  go_ret3
  exact ⟨rfl, hB⟩

set_option maxHeartbeats 2000000 in
theorem Convert_inf (f Wf Df Ef t W D E mode a : Int) (hkf : KK f Wf Df Ef) (hkt : KK t W D E) (hm : Mode mode) (hv : okB Wf a = true) (hc : cls Df (siz Wf a) = 3) (w : World) :
    Calls Tryd.prog 34 #[.int .i64 f, .int .i64 t, .int .i64 mode, .int .i64 a] w fun e w' => e = .returned (.tuple #[.int .i64 (jn W (sgn Wf a) (endl D)), .int .i64 0, .int .i64 0]) ∧ Below w.heap.size w w' := by
  have hkl := hkf.kl
  have h := hkt.kl
  have hs := sgn_s Wf a
  have Ho := Lib.hid (fun w' => open_c Wf Df Ef a hkl hv w')
  rw [hc] at Ho
  clear hc
  have Hf := Lib.hid hkf; clear hkf
  have Ht := Lib.hid hkt; clear hkt
  have Hm := Lib.hid hm; clear hm
  go_enter Tryd.func34, Tryd.ntmps34
  go_wp2_with fail
  refine (layoutOf_c f Wf Df Ef Hf.out _).mono ?_
  rintro e wa ⟨rfl, hb⟩
  have hB := hb.alloc hb.size (.cells #[.int .i64 Wf, .int .i64 Df, .int .i64 Ef] 48)
  have hL := Has.new wa [.int .i64 Wf, .int .i64 Df, .int .i64 Ef] 48
  go_wp2_with fail
  refine (layoutOf_c t W D E Ht.out _).mono ?_
  rintro e wb ⟨rfl, hb⟩
  have hB := bt hB hb
  have hL := hL.keep hb
  have hB := hB.alloc hB.size (.cells #[.int .i64 W, .int .i64 D, .int .i64 E] 48)
  have hL := hL.alloc (.cells #[.int .i64 W, .int .i64 D, .int .i64 E] 48)
  have hT := Has.new wb [.int .i64 W, .int .i64 D, .int .i64 E] 48
  go_wp2_with fail
  refine (isMode_c mode Hm.out _).mono ?_
  rintro e w1 ⟨rfl, rfl⟩
  obtain ⟨l0, l1, l2⟩ := hL.c3
  go_wp2_with fail
  refine (holds_c Wf Df Ef a hkl _).mono ?_
  rintro e w1 ⟨rfl, hb⟩
  have hB := bt hB hb
  have hL := hL.keep hb
  have hT := hT.keep hb
  obtain ⟨l0, l1, l2⟩ := hL.c3
  go_wp2_with fail
  refine (Ho.out _).mono ?_
  rintro e w2 ⟨rfl, hb⟩
  have hB := bt hB hb
  have hT := (hT.keep hb).alloc (.cells #[.int .i64 (3), .int .i64 (sgn Wf a), .int .u64 (mant Df (siz Wf a)), .int .i64 (expo Df (siz Wf a))] 70)
  have hX := Has.new w2 [.int .i64 (3), .int .i64 (sgn Wf a), .int .u64 (mant Df (siz Wf a)), .int .i64 (expo Df (siz Wf a))] 70
  have hB := hB.alloc hB.size (.cells #[.int .i64 (3), .int .i64 (sgn Wf a), .int .u64 (mant Df (siz Wf a)), .int .i64 (expo Df (siz Wf a))] 70)
  obtain ⟨x0, x1, x2, x3⟩ := hX.c4
  obtain ⟨t0, t1, t2⟩ := hT.c3
  go_wp2_with fail
  refine (infinite_c W D E _ h hs _).mono ?_
  rintro e w3 ⟨rfl, hb⟩
  have hB := bt hB hb
  go_wp2_with fail
  go_ret3
  exact ⟨rfl, hB⟩

set_option maxHeartbeats 2000000 in
theorem Convert_zero (f Wf Df Ef t W D E mode a : Int) (hkf : KK f Wf Df Ef) (hkt : KK t W D E) (hm : Mode mode) (hv : okB Wf a = true) (hc : cls Df (siz Wf a) = 0) (w : World) :
    Calls Tryd.prog 34 #[.int .i64 f, .int .i64 t, .int .i64 mode, .int .i64 a] w fun e w' => e = .returned (.tuple #[.int .i64 (jn W (sgn Wf a) 0), .int .i64 0, .int .i64 0]) ∧ Below w.heap.size w w' := by
  have hkl := hkf.kl
  have h := hkt.kl
  have hs := sgn_s Wf a
  have Ho := Lib.hid (fun w' => open_c Wf Df Ef a hkl hv w')
  rw [hc] at Ho
  clear hc
  have H0 : Hid (0 < hf W) := Lib.hid (by rcases h with ⟨rfl, rfl, rfl⟩ | ⟨rfl, rfl, rfl⟩ | ⟨rfl, rfl, rfl⟩ <;> decide)
  have Hf := Lib.hid hkf; clear hkf
  have Ht := Lib.hid hkt; clear hkt
  have Hm := Lib.hid hm; clear hm
  go_enter Tryd.func34, Tryd.ntmps34
  go_wp2_with fail
  refine (layoutOf_c f Wf Df Ef Hf.out _).mono ?_
  rintro e wa ⟨rfl, hb⟩
  have hB := hb.alloc hb.size (.cells #[.int .i64 Wf, .int .i64 Df, .int .i64 Ef] 48)
  have hL := Has.new wa [.int .i64 Wf, .int .i64 Df, .int .i64 Ef] 48
  go_wp2_with fail
  refine (layoutOf_c t W D E Ht.out _).mono ?_
  rintro e wb ⟨rfl, hb⟩
  have hB := bt hB hb
  have hL := hL.keep hb
  have hB := hB.alloc hB.size (.cells #[.int .i64 W, .int .i64 D, .int .i64 E] 48)
  have hL := hL.alloc (.cells #[.int .i64 W, .int .i64 D, .int .i64 E] 48)
  have hT := Has.new wb [.int .i64 W, .int .i64 D, .int .i64 E] 48
  go_wp2_with fail
  refine (isMode_c mode Hm.out _).mono ?_
  rintro e w1 ⟨rfl, rfl⟩
  obtain ⟨l0, l1, l2⟩ := hL.c3
  go_wp2_with fail
  refine (holds_c Wf Df Ef a hkl _).mono ?_
  rintro e w1 ⟨rfl, hb⟩
  have hB := bt hB hb
  have hL := hL.keep hb
  have hT := hT.keep hb
  obtain ⟨l0, l1, l2⟩ := hL.c3
  go_wp2_with fail
  refine (Ho.out _).mono ?_
  rintro e w2 ⟨rfl, hb⟩
  have hB := bt hB hb
  have hT := (hT.keep hb).alloc (.cells #[.int .i64 (0), .int .i64 (sgn Wf a), .int .u64 (mant Df (siz Wf a)), .int .i64 (expo Df (siz Wf a))] 70)
  have hX := Has.new w2 [.int .i64 (0), .int .i64 (sgn Wf a), .int .u64 (mant Df (siz Wf a)), .int .i64 (expo Df (siz Wf a))] 70
  have hB := hB.alloc hB.size (.cells #[.int .i64 (0), .int .i64 (sgn Wf a), .int .u64 (mant Df (siz Wf a)), .int .i64 (expo Df (siz Wf a))] 70)
  obtain ⟨x0, x1, x2, x3⟩ := hX.c4
  obtain ⟨t0, t1, t2⟩ := hT.c3
  go_wp2_with fail
  refine (join_c W D E _ 0 h hs (Int.le_refl _) H0.out _).mono ?_
  rintro e w3 ⟨rfl, hb⟩
  have hB := bt hB hb
  go_wp2_with fail
  go_ret3
  exact ⟨rfl, hB⟩

set_option maxHeartbeats 2000000 in
theorem Convert_fin (f Wf Df Ef t W D E mode a : Int) (hkf : KK f Wf Df Ef) (hkt : KK t W D E) (hm : Mode mode) (hv : okB Wf a = true) (hc : cls Df (siz Wf a) = 1 ∨ cls Df (siz Wf a) = 2) (w : World) :
    Calls Tryd.prog 34 #[.int .i64 f, .int .i64 t, .int .i64 mode, .int .i64 a] w fun e w' => e = .returned (.tuple #[.int .i64 (roundF W D mode (sgn Wf a) (mant Df (siz Wf a)).toNat (expo Df (siz Wf a)) false).1, .int .i64 (roundF W D mode (sgn Wf a) (mant Df (siz Wf a)).toNat (expo Df (siz Wf a)) false).2, .int .i64 0]) ∧ Below w.heap.size w w' := by
  have hkl := hkf.kl
  have h := hkt.kl
  have hs := sgn_s Wf a
  have Ho := Lib.hid (fun w' => open_c Wf Df Ef a hkl hv w')
  obtain ⟨z0, z1⟩ := siz_b Wf Df Ef a hkl
  obtain ⟨m0, m1, _⟩ := mant_b Wf Df Ef _ hkl z0 z1
  obtain ⟨e0, e1, _⟩ := expo_b Wf Df Ef _ hkl z0 (by rcases hc with c | c <;> omega)
  have mp := mant_pos Wf Df Ef a hkl hc
  have hbd := hid_b Wf Df Ef hkl
  have hbt := hid_b W D E h
  have hDt := (hid_pow W D E h).2.2
  have hbl : (bl (mant Df (siz Wf a)).toNat : Int) ≤ 54 := by have := bl_mono_le (mant Df (siz Wf a)).toNat 54 (by omega); omega
  have Hr := Lib.hid (fun w' => round_c W D E mode (sgn Wf a) 0 (mant Df (siz Wf a)) (expo Df (siz Wf a)) false h hm hs ⟨by omega, by omega⟩ ⟨by omega, by omega⟩ (by rw [nn_zero]; omega) (by omega) (by rw [nn_zero]; omega) w')
  rw [nn_zero] at Hr
  have hc0 : (cls Df (siz Wf a) == 0) = false ∧ (cls Df (siz Wf a) == 3) = false ∧ (cls Df (siz Wf a) == 4) = false := by rcases hc with c | c <;> rw [c] <;> decide
  obtain ⟨c0, c3, c4⟩ := hc0
  clear z0 z1 m0 m1 e0 e1 mp hbd hbt hDt hbl hc
  have Hf := Lib.hid hkf; clear hkf
  have Ht := Lib.hid hkt; clear hkt
  have Hm := Lib.hid hm; clear hm
  go_enter Tryd.func34, Tryd.ntmps34
  go_wp2_with fail
  refine (layoutOf_c f Wf Df Ef Hf.out _).mono ?_
  rintro e wa ⟨rfl, hb⟩
  have hB := hb.alloc hb.size (.cells #[.int .i64 Wf, .int .i64 Df, .int .i64 Ef] 48)
  have hL := Has.new wa [.int .i64 Wf, .int .i64 Df, .int .i64 Ef] 48
  go_wp2_with fail
  refine (layoutOf_c t W D E Ht.out _).mono ?_
  rintro e wb ⟨rfl, hb⟩
  have hB := bt hB hb
  have hL := hL.keep hb
  have hB := hB.alloc hB.size (.cells #[.int .i64 W, .int .i64 D, .int .i64 E] 48)
  have hL := hL.alloc (.cells #[.int .i64 W, .int .i64 D, .int .i64 E] 48)
  have hT := Has.new wb [.int .i64 W, .int .i64 D, .int .i64 E] 48
  go_wp2_with fail
  refine (isMode_c mode Hm.out _).mono ?_
  rintro e w1 ⟨rfl, rfl⟩
  obtain ⟨l0, l1, l2⟩ := hL.c3
  go_wp2_with fail
  refine (holds_c Wf Df Ef a hkl _).mono ?_
  rintro e w1 ⟨rfl, hb⟩
  have hB := bt hB hb
  have hL := hL.keep hb
  have hT := hT.keep hb
  obtain ⟨l0, l1, l2⟩ := hL.c3
  go_wp2_with fail
  refine (Ho.out _).mono ?_
  rintro e w2 ⟨rfl, hb⟩
  have hB := bt hB hb
  have hT := (hT.keep hb).alloc (.cells #[.int .i64 (cls Df (siz Wf a)), .int .i64 (sgn Wf a), .int .u64 (mant Df (siz Wf a)), .int .i64 (expo Df (siz Wf a))] 70)
  have hX := Has.new w2 [.int .i64 (cls Df (siz Wf a)), .int .i64 (sgn Wf a), .int .u64 (mant Df (siz Wf a)), .int .i64 (expo Df (siz Wf a))] 70
  have hB := hB.alloc hB.size (.cells #[.int .i64 (cls Df (siz Wf a)), .int .i64 (sgn Wf a), .int .u64 (mant Df (siz Wf a)), .int .i64 (expo Df (siz Wf a))] 70)
  obtain ⟨x0, x1, x2, x3⟩ := hX.c4
  obtain ⟨t0, t1, t2⟩ := hT.c3
  go_wp2_with fail
  refine (Hr.out _).mono ?_
  rintro e w3 ⟨rfl, hb⟩
  have hB := bt hB hb
  go_wp2_with fail
  go_ret3
  exact ⟨rfl, hB⟩
end Go.Proofs.YtfdenbgmogojeaaDoor
