/- Contract of quadratref01's Convert for every input, and of asked where the kind or the mode is none. -/
import Derived.Test.YtfdenbgmogojeaaDoorRefQ
import Derived.Test.YtfdenbgmogojeaaDoorFloCv
import Derived.Test.YtfdenbgmogojeaaDoorRefE
namespace Go.Proofs.YtfdenbgmogojeaaDoor
open Go.RowKit

set_option maxHeartbeats 400000 in
theorem isMode_rno (m : Int) (h : ¬ Mode m) (w : World) : Calls Tryd.prog 82 #[.int .i64 m] w fun e w' => e = .returned (.bool false) ∧ w = w' := by
  by_cases c : 0 ≤ m
  · have c4 : 4 ≤ m := by unfold Mode at h; omega
    clear h
    go_enter Tryd.func82, Tryd.ntmps82
    go_wp2
    go_ret
    exact ⟨ret_b (decide_eq_false (by omega)), rfl⟩
  · clear h
    go_enter Tryd.func82, Tryd.ntmps82
    go_wp2
    go_ret
    exact ⟨rfl, rfl⟩

theorem D_ne (W D E : Int) (h : KL W D E) : (D == 0) = false := by
  rcases h with ⟨rfl, rfl, rfl⟩ | ⟨rfl, rfl, rfl⟩ | ⟨rfl, rfl, rfl⟩ <;> rfl

set_option maxHeartbeats 2000000 in
theorem rMake_bad (k mode s m e : Int) (h : BadMk k mode s m e) (w : World) :
    Calls Tryd.prog 45 #[.int .i64 k, .int .i64 mode, .int .i64 s, .int .i64 m, .int .i64 e] w fun e w' => e = .returned (.tuple #[.int .i64 0, .int .i64 0, .int .i64 2]) ∧ Below w.heap.size w w' := by
  rcases h with ⟨h2, h4, h8⟩ | ⟨W, D, E, hk, h⟩
  · go_enter Tryd.func45, Tryd.ntmps45
    go_wp2_with fail
    refine (rDigits_no k h2 h4 h8 _).mono ?_
    rintro e w1 ⟨rfl, rfl⟩
    go_wp2
    go_ret3
    exact ⟨rfl, Below.refl _ _⟩
  · have hd := D_ne W D E hk.kl
    have Hk := Lib.hid hk; clear hk
    rcases h with hm | ⟨hm, h⟩
    · have Hm := Lib.hid hm; clear hm
      go_enter Tryd.func45, Tryd.ntmps45
      go_wp2_with fail
      refine (rDigits_c k W D E Hk.out _).mono ?_
      rintro e w1 ⟨rfl, rfl⟩
      go_wp2_with fail
      refine (isMode_rno mode Hm.out _).mono ?_
      rintro e w1 ⟨rfl, rfl⟩
      go_wp2
      go_ret3
      exact ⟨rfl, Below.refl _ _⟩
    · have Hm := Lib.hid hm; clear hm
      have hs : s < 0 ∨ (0 ≤ s ∧ 1 < s) ∨ ((s = 0 ∨ s = 1) ∧ (m < 0 ∨ (0 ≤ m ∧ (e < -2000 ∨ (-2000 ≤ e ∧ 2000 < e))))) := by
        rcases h with ⟨s0, s1⟩ | ⟨hs, h⟩
        · simp at s0 s1; omega
        · exact .inr (.inr ⟨hs, h⟩)
      clear h
      rcases hs with c | ⟨c0, c1⟩ | ⟨rfl | rfl, hm0 | ⟨hm1, he | ⟨he0, he1⟩⟩⟩
      all_goals
        go_enter Tryd.func45, Tryd.ntmps45
        go_wp2_with fail
        refine (rDigits_c k W D E Hk.out _).mono ?_
        rintro e w1 ⟨rfl, rfl⟩
        go_wp2_with fail
        refine (isMode_r mode Hm.out _).mono ?_
        rintro e w1 ⟨rfl, rfl⟩
        go_wp2
        go_ret3
        exact ⟨rfl, Below.refl _ _⟩

set_option maxHeartbeats 2000000 in
theorem rMake_zero (k W D E mode s e : Int) (hk : KK k W D E) (hm : Mode mode) (hs : Sgn s) (he0 : -2000 ≤ e) (he1 : e ≤ 2000) (w : World) :
    Calls Tryd.prog 45 #[.int .i64 k, .int .i64 mode, .int .i64 s, .int .i64 0, .int .i64 e] w fun e w' => e = .returned (.tuple #[.int .i64 (jn W s 0), .int .i64 0, .int .i64 0]) ∧ Below w.heap.size w w' := by
  have hd := D_ne W D E hk.kl
  have Hk := Lib.hid hk; clear hk
  have Hm := Lib.hid hm; clear hm
  rcases hs with rfl | rfl
  all_goals
    go_enter Tryd.func45, Tryd.ntmps45
    go_wp2_with fail
    refine (rDigits_c k W D E Hk.out _).mono ?_
    rintro e w1 ⟨rfl, rfl⟩
    go_wp2_with fail
    refine (isMode_r mode Hm.out _).mono ?_
    rintro e w1 ⟨rfl, rfl⟩
    go_wp2_with fail
    refine (rZero_c k W D E _ Hk.out (by first | exact .inl rfl | exact .inr rfl) _).mono ?_
    rintro e w2 ⟨rfl, hb⟩
    go_wp2
    go_ret3
    exact ⟨rfl, hb⟩

set_option maxHeartbeats 4000000 in
theorem rMake_c (k W D E mode s m e : Int) (hk : KK k W D E) (hm : Mode mode) (hs : Sgn s) (m0 : 0 < m) (m1 : m < 9223372036854775808) (he0 : -2000 ≤ e) (he1 : e ≤ 2000) (w : World) :
    Calls Tryd.prog 45 #[.int .i64 k, .int .i64 mode, .int .i64 s, .int .i64 m, .int .i64 e] w fun e' w' => e' = .returned (.tuple #[.int .i64 (roundF W D mode s m.toNat e false).1, .int .i64 (roundF W D mode s m.toNat e false).2, .int .i64 0]) ∧ Below w.heap.size w w' := by
  have hd := D_ne W D E hk.kl
  have hb64 : bl m.toNat ≤ 64 := bl_mono_le _ 64 (by omega)
  have Hk := Lib.hid hk; clear hk
  have Hm := Lib.hid hm; clear hm
  have Ho := Lib.hid (fun w' => Of_c m m.toNat (by rw [IntKind.wrap_u64]; omega) (by omega) w')
  have Hr := Lib.hid (fun v w' (hv : RN w' v (bl m.toNat) m.toNat) => Rounded_c k W D E mode s m.toNat e false v Hk.out Hm.out hs (by omega) (by omega) (by omega) (by omega) (fun h => by cases h) w' hv)
  rcases hs with rfl | rfl
  all_goals
    go_enter Tryd.func45, Tryd.ntmps45
    go_wp2_with fail
    refine (rDigits_c k W D E Hk.out _).mono ?_
    rintro e w1 ⟨rfl, rfl⟩
    go_wp2_with fail
    refine (isMode_r mode Hm.out _).mono ?_
    rintro e w1 ⟨rfl, rfl⟩
    go_wp2_with fail
    refine (Ho.out _).mono ?_
    rintro e w1 ⟨v, rfl, hown, hb⟩
    go_wp2_with fail
    refine (Hr.out _ _ (RN.of hown)).mono ?_
    rintro e w2 ⟨rfl, hb2⟩
    go_wp2
    go_ret3
    exact ⟨rfl, bt hb hb2⟩
end Go.Proofs.YtfdenbgmogojeaaDoor

namespace Go.Proofs.YtfdenbgmogojeaaDoor
open Go.RowKit

set_option maxHeartbeats 1000000 in
theorem rasked_nok (k m a b : Int) (hm : Mode m) (hk : NoK k) (w : World) :
    Calls Tryd.prog 51 #[.int .i64 k, .int .i64 m, .int .i64 a, .int .i64 b] w fun e w' => e = .returned (.bool false) ∧ w = w' := by
  obtain ⟨h2, h4, h8⟩ := hk
  have H := Lib.hid (fun w' => rValid_no k a h2 h4 h8 w')
  have Hm := Lib.hid hm; clear hm
  clear h2 h4 h8
  go_enter Tryd.func51, Tryd.ntmps51
  go_wp2_with fail
  refine (isMode_r m Hm.out _).mono ?_
  rintro e w0 ⟨rfl, rfl⟩
  go_wp2_with fail
  refine (H.out _).mono ?_
  rintro e w0 ⟨rfl, rfl⟩
  go_wp2
  go_ret
  exact ⟨rfl, rfl⟩
set_option maxHeartbeats 1000000 in
theorem rasked_nom (k m a b : Int) (hm : ¬ Mode m) (w : World) :
    Calls Tryd.prog 51 #[.int .i64 k, .int .i64 m, .int .i64 a, .int .i64 b] w fun e w' => e = .returned (.bool false) ∧ w = w' := by
  have Hm := Lib.hid hm; clear hm
  go_enter Tryd.func51, Tryd.ntmps51
  go_wp2_with fail
  refine (isMode_rno m Hm.out _).mono ?_
  rintro e w0 ⟨rfl, rfl⟩
  go_wp2
  go_ret
  exact ⟨rfl, rfl⟩

/-- Where asked says no. -/
theorem rConvert_bad (f t mode a : Int) (hq : ∀ w, Calls Tryd.prog 51 #[.int .i64 f, .int .i64 mode, .int .i64 a, .int .i64 a] w fun e w' => e = .returned (.bool false) ∧ w = w') (w : World) :
    Calls Tryd.prog 35 #[.int .i64 f, .int .i64 t, .int .i64 mode, .int .i64 a] w fun e w' => e = .returned (.tuple #[.int .i64 0, .int .i64 0, .int .i64 2]) ∧ Below w.heap.size w w' := by
  have H := Lib.hid hq; clear hq
  go_enter Tryd.func35, Tryd.ntmps35
  go_wp2_with fail
  refine (H.out _).mono ?_
  rintro e w0 ⟨rfl, rfl⟩
  go_wp2
  go_ret3
  exact ⟨rfl, Below.refl _ _⟩
theorem rConvert_not (f Wf Df Ef t mode a : Int) (hk : KK f Wf Df Ef) (hm : Mode mode) (hv : okB Wf a = true) (ht : NoK t) (w : World) :
    Calls Tryd.prog 35 #[.int .i64 f, .int .i64 t, .int .i64 mode, .int .i64 a] w fun e w' => e = .returned (.tuple #[.int .i64 0, .int .i64 0, .int .i64 2]) ∧ Below w.heap.size w w' := by
  have H := Lib.hid (fun w' => rasked_c f Wf Df Ef mode a a hk hm w')
  rw [hv] at H
  obtain ⟨h2, h4, h8⟩ := ht
  have Hd := Lib.hid (fun w' => rDigits_no t h2 h4 h8 w')
  clear hk hm h2 h4 h8
  go_enter Tryd.func35, Tryd.ntmps35
  go_wp2_with fail
  refine (H.out _).mono ?_
  rintro e w0 ⟨rfl, rfl⟩
  go_wp2_with fail
  refine (Hd.out _).mono ?_
  rintro e w0 ⟨rfl, rfl⟩
  go_wp2
  go_ret3
  exact ⟨rfl, Below.refl _ _⟩

set_option maxHeartbeats 2000000 in
theorem rConvert_none (f Wf Df Ef t W D E mode a : Int) (hkf : KK f Wf Df Ef) (hkt : KK t W D E) (hm : Mode mode) (hv : okB Wf a = true) (hc : cls Df (siz Wf a) = 4) (w : World) :
    Calls Tryd.prog 35 #[.int .i64 f, .int .i64 t, .int .i64 mode, .int .i64 a] w fun e w' => e = .returned (.tuple #[.int .i64 (jn W 0 (qz D)), .int .i64 0, .int .i64 0]) ∧ Below w.heap.size w w' := by
  have hs := sgn_s Wf a
  have hd := D_ne W D E hkt.kl
  have H := Lib.hid (fun w' => rasked_c f Wf Df Ef mode a a hkf hm w')
  rw [hv] at H
  have Htk := Lib.hid (fun w' => taken_c f Wf Df Ef a hkf hv w')
  have hwh : whS (cls Df (siz Wf a)) = ⟨#[110, 111, 110, 101]⟩ := by rw [hc]; rfl
  have hrs : rS Wf Df a = 0 := by unfold rS; rw [if_pos hc]
  have Hrs := Lib.hid hrs; clear hrs
  have Hs := Lib.hid hs; clear hs
  have Ht := Lib.hid hkt; clear hkt
  clear hkf hm
  clear hc
  go_enter Tryd.func35, Tryd.ntmps35
  go_wp2_with fail
  refine (H.out _).mono ?_
  rintro e w0 ⟨rfl, rfl⟩
  go_wp2_with fail
  refine (rDigits_c t W D E Ht.out _).mono ?_
  rintro e w0 ⟨rfl, rfl⟩
  go_wp2_with fail
  refine (Htk.out _).mono ?_
  rintro e w1 ⟨v0, rfl, hown, hB⟩
  rw [Hrs.out]
  obtain ⟨ad, ln, cp, hv0⟩ := own_slice hown
  subst hv0
  clear hown
  have hB := hB.alloc hB.size (.cells #[.string ⟨#[110, 111, 110, 101]⟩, .int .i64 (0), .slice ad ln cp, .int .i64 (rE Df (siz Wf a))] 53)
  go_wp2_with fail
  refine (rQuiet_c t W D E Ht.out _).mono ?_
  rintro e w3 ⟨rfl, hb⟩
  have hB := bt hB hb
  go_wp2_with fail
  go_ret3
  exact ⟨rfl, hB⟩

set_option maxHeartbeats 2000000 in
theorem rConvert_inf (f Wf Df Ef t W D E mode a : Int) (hkf : KK f Wf Df Ef) (hkt : KK t W D E) (hm : Mode mode) (hv : okB Wf a = true) (hc : cls Df (siz Wf a) = 3) (w : World) :
    Calls Tryd.prog 35 #[.int .i64 f, .int .i64 t, .int .i64 mode, .int .i64 a] w fun e w' => e = .returned (.tuple #[.int .i64 (jn W (sgn Wf a) (endl D)), .int .i64 0, .int .i64 0]) ∧ Below w.heap.size w w' := by
  have hs := sgn_s Wf a
  have hd := D_ne W D E hkt.kl
  have H := Lib.hid (fun w' => rasked_c f Wf Df Ef mode a a hkf hm w')
  rw [hv] at H
  have Htk := Lib.hid (fun w' => taken_c f Wf Df Ef a hkf hv w')
  have hwh : whS (cls Df (siz Wf a)) = ⟨#[105, 110, 102, 105, 110, 105, 116, 101]⟩ := by rw [hc]; rfl
  have hrs : rS Wf Df a = sgn Wf a := by unfold rS; rw [if_neg (by omega)]
  have Hrs := Lib.hid hrs; clear hrs
  have Hs := Lib.hid hs; clear hs
  have Ht := Lib.hid hkt; clear hkt
  clear hkf hm
  clear hc
  go_enter Tryd.func35, Tryd.ntmps35
  go_wp2_with fail
  refine (H.out _).mono ?_
  rintro e w0 ⟨rfl, rfl⟩
  go_wp2_with fail
  refine (rDigits_c t W D E Ht.out _).mono ?_
  rintro e w0 ⟨rfl, rfl⟩
  go_wp2_with fail
  refine (Htk.out _).mono ?_
  rintro e w1 ⟨v0, rfl, hown, hB⟩
  rw [Hrs.out]
  obtain ⟨ad, ln, cp, hv0⟩ := own_slice hown
  subst hv0
  clear hown
  have hB := hB.alloc hB.size (.cells #[.string ⟨#[105, 110, 102, 105, 110, 105, 116, 101]⟩, .int .i64 (sgn Wf a), .slice ad ln cp, .int .i64 (rE Df (siz Wf a))] 53)
  go_wp2_with fail
  refine (rInfinite_c t W D E _ Ht.out Hs.out _).mono ?_
  rintro e w3 ⟨rfl, hb⟩
  have hB := bt hB hb
  go_wp2_with fail
  go_ret3
  exact ⟨rfl, hB⟩

set_option maxHeartbeats 2000000 in
theorem rConvert_zero (f Wf Df Ef t W D E mode a : Int) (hkf : KK f Wf Df Ef) (hkt : KK t W D E) (hm : Mode mode) (hv : okB Wf a = true) (hc : cls Df (siz Wf a) = 0) (w : World) :
    Calls Tryd.prog 35 #[.int .i64 f, .int .i64 t, .int .i64 mode, .int .i64 a] w fun e w' => e = .returned (.tuple #[.int .i64 (jn W (sgn Wf a) 0), .int .i64 0, .int .i64 0]) ∧ Below w.heap.size w w' := by
  have hs := sgn_s Wf a
  have hd := D_ne W D E hkt.kl
  have H := Lib.hid (fun w' => rasked_c f Wf Df Ef mode a a hkf hm w')
  rw [hv] at H
  have Htk := Lib.hid (fun w' => taken_c f Wf Df Ef a hkf hv w')
  have hwh : whS (cls Df (siz Wf a)) = ⟨#[122, 101, 114, 111]⟩ := by rw [hc]; rfl
  have hrs : rS Wf Df a = sgn Wf a := by unfold rS; rw [if_neg (by omega)]
  have Hrs := Lib.hid hrs; clear hrs
  have Hs := Lib.hid hs; clear hs
  have Ht := Lib.hid hkt; clear hkt
  clear hkf hm
  clear hc
  go_enter Tryd.func35, Tryd.ntmps35
  go_wp2_with fail
  refine (H.out _).mono ?_
  rintro e w0 ⟨rfl, rfl⟩
  go_wp2_with fail
  refine (rDigits_c t W D E Ht.out _).mono ?_
  rintro e w0 ⟨rfl, rfl⟩
  go_wp2_with fail
  refine (Htk.out _).mono ?_
  rintro e w1 ⟨v0, rfl, hown, hB⟩
  rw [Hrs.out]
  obtain ⟨ad, ln, cp, hv0⟩ := own_slice hown
  subst hv0
  clear hown
  have hB := hB.alloc hB.size (.cells #[.string ⟨#[122, 101, 114, 111]⟩, .int .i64 (sgn Wf a), .slice ad ln cp, .int .i64 (rE Df (siz Wf a))] 53)
  go_wp2_with fail
  refine (rZero_c t W D E _ Ht.out Hs.out _).mono ?_
  rintro e w3 ⟨rfl, hb⟩
  have hB := bt hB hb
  go_wp2_with fail
  go_ret3
  exact ⟨rfl, hB⟩

set_option maxHeartbeats 2000000 in
theorem rConvert_fin (f Wf Df Ef t W D E mode a : Int) (hkf : KK f Wf Df Ef) (hkt : KK t W D E) (hm : Mode mode) (hv : okB Wf a = true) (hc : cls Df (siz Wf a) = 1 ∨ cls Df (siz Wf a) = 2) (w : World) :
    Calls Tryd.prog 35 #[.int .i64 f, .int .i64 t, .int .i64 mode, .int .i64 a] w fun e w' => e = .returned (.tuple #[.int .i64 (roundF W D mode (sgn Wf a) (mant Df (siz Wf a)).toNat (expo Df (siz Wf a)) false).1, .int .i64 (roundF W D mode (sgn Wf a) (mant Df (siz Wf a)).toNat (expo Df (siz Wf a)) false).2, .int .i64 0]) ∧ Below w.heap.size w w' := by
  have hs := sgn_s Wf a
  have hd := D_ne W D E hkt.kl
  have H := Lib.hid (fun w' => rasked_c f Wf Df Ef mode a a hkf hm w')
  rw [hv] at H
  have Htk := Lib.hid (fun w' => taken_c f Wf Df Ef a hkf hv w')
  have hwh : whS (cls Df (siz Wf a)) = ⟨#[102, 105, 110, 105, 116, 101]⟩ := by rcases hc with c | c <;> (rw [c]; rfl)
  have hrs : rS Wf Df a = sgn Wf a := by unfold rS; rw [if_neg (by omega)]
  have Hrs := Lib.hid hrs; clear hrs
  have hre : rE Df (siz Wf a) = expo Df (siz Wf a) := by unfold rE; rw [if_pos hc]
  have Hre := Lib.hid hre; clear hre
  have hf := hkf.kl
  obtain ⟨z0, z1⟩ := siz_b Wf Df Ef a hf
  obtain ⟨m0, m1, _⟩ := mant_b Wf Df Ef _ hf z0 z1
  obtain ⟨e0, e1, _⟩ := expo_b Wf Df Ef _ hf z0 (by rcases hc with c | c <;> omega)
  have mp := mant_pos Wf Df Ef a hf hc
  have hbd := hid_b Wf Df Ef hf
  have hbl : bl (mant Df (siz Wf a)).toNat ≤ 54 := bl_mono_le (mant Df (siz Wf a)).toNat 54 (by omega)
  have Hr := Lib.hid (fun v w' (hv : RN w' v (bl (mant Df (siz Wf a)).toNat) (mant Df (siz Wf a)).toNat) => Rounded_c t W D E mode (sgn Wf a) (mant Df (siz Wf a)).toNat (expo Df (siz Wf a)) false v hkt hm hs (by omega) (by omega) (by omega) (by omega) (fun h => by cases h) w' hv)
  clear z0 z1 m0 m1 e0 e1 mp hbd
  have Hs := Lib.hid hs; clear hs
  have Ht := Lib.hid hkt; clear hkt
  clear hkf hm
  clear hc
  go_enter Tryd.func35, Tryd.ntmps35
  go_wp2_with fail
  refine (H.out _).mono ?_
  rintro e w0 ⟨rfl, rfl⟩
  go_wp2_with fail
  refine (rDigits_c t W D E Ht.out _).mono ?_
  rintro e w0 ⟨rfl, rfl⟩
  go_wp2_with fail
  refine (Htk.out _).mono ?_
  rintro e w1 ⟨v0, rfl, hown, hB⟩
  rw [Hrs.out]
  obtain ⟨ad, ln, cp, hv0⟩ := own_slice hown
  subst hv0
  rw [Hre.out]
  have hr := RN.of hown
  clear hown
  have hX := Has.new w1 [.string ⟨#[102, 105, 110, 105, 116, 101]⟩, .int .i64 (sgn Wf a), .slice ad ln cp, .int .i64 (expo Df (siz Wf a))] 53
  have hr := hr.keep ((Below.refl w1.heap.size w1).alloc (Nat.le_refl _) (.cells #[.string ⟨#[102, 105, 110, 105, 116, 101]⟩, .int .i64 (sgn Wf a), .slice ad ln cp, .int .i64 (expo Df (siz Wf a))] 53))
  have hB := hB.alloc hB.size (.cells #[.string ⟨#[102, 105, 110, 105, 116, 101]⟩, .int .i64 (sgn Wf a), .slice ad ln cp, .int .i64 (expo Df (siz Wf a))] 53)
  obtain ⟨x0, x1, x2, x3⟩ := hX.c4
  go_wp2_with fail
  refine (Hr.out _ _ hr).mono ?_
  rintro e w3 ⟨rfl, hb⟩
  have hB := bt hB hb
  go_wp2_with fail
  go_ret3
  exact ⟨rfl, hB⟩
end Go.Proofs.YtfdenbgmogojeaaDoor
