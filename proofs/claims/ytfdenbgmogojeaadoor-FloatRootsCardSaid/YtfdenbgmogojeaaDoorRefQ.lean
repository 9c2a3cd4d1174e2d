/- Contract of quadratref01.Rounded: the float that a number and what is behind it round to, and its flags, as the code's; conditions: the number is not 0 and not longer than 5000 digits, the exponent is between -20000 and 20000, and where more is behind the last digit some digits are cut. -/
import Derived.Test.YtfdenbgmogojeaaDoorRefP
import Derived.Deep.DeepCutAuto
namespace Go.Proofs.YtfdenbgmogojeaaDoor
open Go.RowKit

set_option maxRecDepth 100000 in
set_option maxHeartbeats 2000000 in
theorem Int_c (v : Value) (L M : Nat) (hL : L ≤ 64) (hM : M < 2 ^ L) (w : World) (h : RN w v L M) :
    Calls Tryd.prog 88 #[v] w fun e w' => e = .returned (.int .i64 (wrap64 (M : Int))) ∧ w = w' := by
  obtain ⟨p, cap, rfl⟩ := h.slice
  by_cases c : L = 0
  · subst c
    have hM0 : M = 0 := by simpa using hM
    subst hM0
    clear h hM
    go_enter Tryd.func88, Tryd.ntmps88
    go_wp2
    go_loopw [3, 4] (fun u i wr => u = .int .u64 0 ∧ i = .int .i64 0 ∧ wr = w) (fun _ i _ => (intOf i).toNat)
    case atStart => exact ⟨rfl, rfl, rfl⟩
    case round =>
      obtain ⟨rfl, rfl, rfl⟩ := hrel
      go_wp2
      go_ret
      exact ⟨congrArg (fun x => Ending.returned (Value.int .i64 x)) (show (0 : Int) = wrap64 ((0 : Nat) : Int) by unfold wrap64; simp), rfl⟩
  · obtain ⟨g, rfl, _, hc⟩ := h.cells (by omega)
    exact rInt_c g cap L M hM hL w hc

theorem goes_inf (mode s : Int) (hm : Mode mode) (hs : Sgn s) : goesF mode s 1 true = toInf mode s := by
  rcases hm with rfl | rfl | rfl | rfl <;> rcases hs with rfl | rfl <;> rfl
theorem odd_bit (K : Nat) : ((bd K 0 : Int) == 1) = decide (K % 2 = 1) := by
  unfold bd; rw [Nat.pow_zero, Nat.div_one, Bool.eq_iff_iff]; simp; omega
theorem lt_up (K LK t : Nat) (h : K < 2 ^ LK) (h0 : LK = 0 → K = 0) : K * 2 ^ t < 2 ^ (if LK = 0 then 0 else t + LK) := by
  split
  · rename_i c; rw [h0 c]; simp
  · rw [Nat.pow_add, Nat.mul_comm]; exact Nat.mul_lt_mul_of_pos_left h (Nat.two_pow_pos t)
theorem RN.cast {w : World} {v : Value} {L M L' M' : Nat} (h : RN w v L M) (hL : L = L') (hM : M = M') : RN w v L' M' := by subst hL; subst hM; exact h

set_option maxRecDepth 100000 in
set_option maxHeartbeats 8000000 in
theorem Rounded_c (k W D E mode s : Int) (N : Nat) (e : Int) (more : Bool) (v : Value) (hk : KK k W D E) (hm : Mode mode) (hs : Sgn s) (hN : N ≠ 0) (hL : bl N ≤ 5000) (e0 : -20000 ≤ e) (e1 : e ≤ 20000) (hmore : more = true → 0 < lastF D N e - e) (w : World) (h : RN w v (bl N) N) :
    Calls Tryd.prog 60 #[.int .i64 k, .int .i64 mode, .int .i64 s, v, .int .i64 e, .bool more] w fun e' w' => e' = .returned (.tuple #[.int .i64 (roundF W D mode s N e more).1, .int .i64 (roundF W D mode s N e more).2]) ∧ Below w.heap.size w w' := by
  obtain ⟨p, cap, rfl⟩ := h.slice
  obtain ⟨L, hLd⟩ : ∃ L, L = bl N := ⟨_, rfl⟩
  rw [← hLd] at h hL ⊢
  have hL0 : 0 < L := by have := bl_pos N hN; omega
  obtain ⟨q, hq⟩ : ∃ q, q = lastF D N e := ⟨_, rfl⟩
  rw [← hq] at hmore
  have hq' : q = max (e + (L : Int) - D) (low D) := by rw [hq, hLd]; rfl
  obtain ⟨hb1, hb2, hb3, hb4, hb5⟩ := hid_b W D E hk.kl
  obtain ⟨hD0, hD1⟩ := (hid_pow W D E hk.kl).2.2
  have q0 : -1074 ≤ q ∧ q ≤ 25000 ∧ low D ≤ q ∧ e + (L : Int) - D ≤ q ∧ q - e ≤ 30000 ∧ e - q ≤ 30000 := by omega
  obtain ⟨q0, q1, q2, q3, q4, q5⟩ := q0
  have Hk := Lib.hid hk; clear hk
  have Hm := Lib.hid hm; clear hm
  have Hs := Lib.hid hs; clear hs
  have HN := Lib.hid hN; clear hN
  have Hq := Lib.hid hq; clear hq
  have Hq' := Lib.hid hq'; clear hq'
  have HL := Lib.hid hLd; clear hLd
  have Hmore := Lib.hid hmore; clear hmore
  have Hup := Lib.hid (fun w' (hv : RN w' (.slice p L cap) L N) => Up_c (.slice p L cap) L N (by omega) 2 2 rfl (by omega) (2 + L) (by rw [if_neg (by omega)]) (by omega) w' hv)
  go_enter Tryd.func60, Tryd.ntmps60
  go_wp2_with fail
  refine (rDigits_c k W D E Hk.out _).mono ?_
  rintro e w1 ⟨rfl, rfl⟩
  go_wp2_with fail
  refine (Hup.out _ h).mono ?_
  rintro e w1 ⟨p1, cap1, rfl, h1, hB⟩
  clear h Hup
  go_wp2_with fail
  refine (rleast_c k W D E Hk.out _).mono ?_
  rintro e' w2 ⟨rfl, hb⟩
  have h1 := h1.keep hb
  have hB := bt hB hb
  clear hb
  go_upto_if 39 with fail
  go_cut [3, 4, 15] (fun a b c wr => ∃ (p2 : Option Addr) (cap2 L2 d t : Nat) (e2 : Int), a = .slice p2 L2 cap2 ∧ b = .int .i64 e2 ∧ c = .int .i64 q ∧ RN wr (.slice p2 L2 cap2) L2 (N * 2 ^ d) ∧ L2 = d + L ∧ e2 = e - d ∧ q - e2 = t ∧ (2 ≤ d ∧ (d = 2 ∨ t = 0)) ∧ Below w.heap.size w wr)
  case first =>
    have hmx : max (2 + (L : Int) + (e - 2) - D) (low D) = q := by have := Hq'.out; omega
    rw [hmx]
    by_cases c : q < e - 2
    · obtain ⟨t0, ht0⟩ : ∃ t0 : Nat, e - 2 - q = (t0 : Int) := ⟨(e - 2 - q).toNat, by omega⟩
      have Ht0 := Lib.hid ht0; clear ht0
      go_wp2_with fail
      refine (Up_c _ (2 + L) (N * 2 ^ 2) (by omega) (e - 2 - q) t0 Ht0.out (by have := Ht0.out; omega) (2 + t0 + L) (by rw [if_neg (by omega)]; omega) (by omega) _ h1).mono ?_
      rintro e' w3 ⟨p2, cap2, rfl, h2, hb⟩
      have hB := bt hB hb
      go_wp2_with fail
      go_meet
      have ht := Ht0.out
      exact ⟨p2, cap2, _, 2 + t0, 0, q, rfl, rfl, rfl, h2.cast rfl (by rw [Nat.pow_add, Nat.mul_assoc]), rfl, by omega, by omega, ⟨by omega, .inr rfl⟩, hB⟩
    · go_wp2_with fail
      go_meet
      exact ⟨p1, cap1, _, 2, (q - e + 2).toNat, e - 2, rfl, rfl, rfl, h1, rfl, rfl, by omega, ⟨by omega, .inl rfl⟩, hB⟩
  case rest =>
    obtain ⟨p2, cap2, L2, d, t, e2, rfl, rfl, rfl, h2, hL2, he2, ht, ⟨hd2, hdt⟩, hB⟩ := hcut
    clear h1
    have htb : t ≤ 100000 ∧ d ≤ 50000 := by omega
    obtain ⟨tb, db⟩ := htb
    have he2b : -80000 ≤ e2 ∧ e2 ≤ 20000 := by omega
    obtain ⟨e20, e21⟩ := he2b
    obtain ⟨K, hK⟩ : ∃ K, K = N * 2 ^ d / 2 ^ t := ⟨_, rfl⟩
    have hbl2 : bl (N * 2 ^ d) = L2 := by rw [bl_up _ _ HN.out, ← HL.out, hL2]
    have hLK : bl K = L2 - t := by
      rw [hK]
      by_cases c : t < bl (N * 2 ^ d)
      · rw [bl_down _ _ c, hbl2]
      · rw [div_far _ _ (by omega), bl_zero]; omega
    have hKc : (K : Int) = keptF D N e := by
      rw [hK, up_cut N d t (q - e) (by omega), Hq.out]; rfl
    have hKle : K * 2 ^ t ≤ N * 2 ^ d := by rw [hK]; exact Nat.div_mul_le_self _ _
    have hR : N * 2 ^ d - K * 2 ^ t = N * 2 ^ d % 2 ^ t := by
      rw [hK]; have := Nat.div_add_mod (N * 2 ^ d) (2 ^ t); rw [Nat.mul_comm] at this; omega
    have hN2 : N * 2 ^ d < 2 ^ L2 := by rw [← hbl2]; exact bl_lt _
    have hKlt := bl_lt K
    have hK0 : bl K = 0 → K = 0 := fun h => by rw [h] at hKlt; simpa using hKlt
    have HKc := Lib.hid hKc; clear hKc
    have HK := Lib.hid hK; clear hK
    have HLK := Lib.hid hLK; clear hLK
    have Hbl2 := Lib.hid hbl2; clear hbl2
    have HKle := Lib.hid hKle; clear hKle
    have HR := Lib.hid hR; clear hR
    have HN2 := Lib.hid hN2; clear hN2
    have HKlt := Lib.hid hKlt; clear hKlt
    have HK0 := Lib.hid hK0; clear hK0
    have He2 := Lib.hid he2; clear he2
    have Ht := Lib.hid ht; clear ht
    have Hdt := Lib.hid hdt; clear hdt
    have HL2 := Lib.hid hL2; clear hL2
    have hL2b : L2 ≤ 60000 := by have := HL2.out; omega
    go_wp2_with fail
    refine (Down_c _ L2 (N * 2 ^ d) (by omega) (q - e2) t Ht.out (by omega) _ h2).mono ?_
    rintro e' w3 ⟨p3, cap3, rfl, h3, hb⟩
    have h2 := h2.keep hb
    have hB := bt hB hb
    clear hb
    rw [← HLK.out, ← HK.out] at h3
    rw [← HLK.out]
    obtain ⟨LK, hLKd⟩ : ∃ LK, LK = bl K := ⟨_, rfl⟩
    rw [← hLKd] at h3 ⊢
    have HLKd := Lib.hid hLKd; clear hLKd
    have hLKb : LK ≤ 60000 := by have := HLKd.out; have := HLK.out; omega
    obtain ⟨LU, hLU⟩ : ∃ LU, LU = if LK = 0 then 0 else t + LK := ⟨_, rfl⟩
    have hLUb : LU ≤ 60000 := by have := HLKd.out; have := HLK.out; rw [hLU]; split <;> omega
    have HLU := Lib.hid hLU; clear hLU
    go_wp2_with fail
    refine (Up_c _ LK K (by omega) (q - e2) t Ht.out (by omega) LU HLU.out (fun h => HK0.out (by rw [← HLKd.out]; exact h)) _ h3).mono ?_
    rintro e' w4 ⟨p4, cap4, rfl, h4, hb⟩
    have h2 := h2.keep hb
    have h3 := h3.keep hb
    have hB := bt hB hb
    clear hb
    go_wp2_with fail
    refine (Minus_c _ _ L2 LU (N * 2 ^ d) (K * 2 ^ t) (by omega) (by omega) HN2.out (by rw [HLU.out]; exact lt_up K LK t (by rw [HLKd.out]; exact HKlt.out) (fun h => HK0.out (by rw [← HLKd.out]; exact h))) HKle.out _ h2 h4).mono ?_
    rintro e' w5 ⟨p5, cap5, rfl, h5, hb⟩
    have h2 := h2.keep hb
    have h3 := h3.keep hb
    have hB := bt hB hb
    clear hb h4
    rw [HR.out] at h5 ⊢
    obtain ⟨R, hRd⟩ : ∃ R, R = N * 2 ^ d % 2 ^ t := ⟨_, rfl⟩
    rw [← hRd] at h5 ⊢
    have hLR : bl R ≤ t := bl_mono_le _ t (by rw [hRd]; exact Nat.mod_lt _ (Nat.two_pow_pos t))
    have HRd := Lib.hid hRd; clear hRd
    have hRz : (bl R : Int) = 0 ↔ R = 0 := by
      constructor
      · intro h; have := bl_lt R; rw [show bl R = 0 by omega] at this; simpa using this
      · intro h; rw [h]; rfl
    have HRz := Lib.hid hRz; clear hRz
    have hex : (R = 0 ∧ more = false) ↔ restF D N e more = 0 := by
      have h := exact_rest N d t (q - e) more (by have := Ht.out; have := He2.out; omega) Hmore.out
      rw [← HRd.out] at h
      unfold restF; rw [← Hq.out]; exact h
    have Hex := Lib.hid hex; clear hex
    have hbias : biasF D = 2 - low D - D := rfl
    have hbb : 0 ≤ biasF D ∧ biasF D ≤ 1074 := by rcases Hk.out.kl with ⟨rfl, rfl, rfl⟩ | ⟨rfl, rfl, rfl⟩ | ⟨rfl, rfl, rfl⟩ <;> decide
    have Hbias := Lib.hid hbias; clear hbias
    obtain ⟨bb0, bb1⟩ := hbb
    obtain ⟨ex, hexd⟩ : ∃ ex, ex = decide (R = 0 ∧ more = false) := ⟨_, rfl⟩
    have Hexd := Lib.hid hexd; clear hexd
    go_upto_region 9 with fail
    go_cut [18, 19] (fun b a wr => b = .slice p5 (bl R) cap5 ∧ a = .bool ex ∧ wr = w5)
    case first =>
      by_cases c : R = 0
      · have hz : ((bl R : Int) == 0) = true := by have := HRz.out.2 c; simpa using this
        cases more
        · go_wp2_with fail
          go_meet
          exact ⟨by rw [c]; rfl, by rw [Hexd.out]; simp [c], rfl⟩
        · go_wp2_with fail
          go_meet
          exact ⟨by rw [c]; rfl, by rw [Hexd.out]; simp [c], rfl⟩
      · have hz : ((bl R : Int) == 0) = false := by
          rw [Bool.eq_false_iff]; intro h; exact c (HRz.out.1 (by simpa using h))
        go_wp2_with fail
        go_meet
        exact ⟨rfl, by rw [Hexd.out]; simp [c], rfl⟩
    case rest =>
    obtain ⟨rfl, rfl, rfl⟩ := hcut
    go_upto_if 66 with fail
    go_cut [16, 17] (fun f kp wr => f = .int .i64 (flagF D N e more) ∧ ∃ (pk : Option Addr) (capk K' : Nat), kp = .slice pk (bl K') capk ∧ RN wr (.slice pk (bl K') capk) (bl K') K' ∧ (K' : Int) = mF D mode s N e more ∧ Below w.heap.size w wr)
    case first =>
      cases ex
      case true =>
        have cx := of_decide_eq_true Hexd.out.symm
        have hr0 := Hex.out.1 cx
        have Hr0 := Lib.hid hr0; clear hr0 cx
        go_wp2_with fail
        go_meet
        refine ⟨?_, p3, cap3, K, ?_, ?_, ?_, hB⟩
        · unfold flagF; rw [if_pos Hr0.out]
        · rw [HLKd.out]
        · rw [← HLKd.out]; exact h3
        · unfold mF; rw [Hr0.out, steps_0, HKc.out]; rfl
      case false =>
        have cx := of_decide_eq_false Hexd.out.symm
        have hr0 : ¬ restF D N e more = 0 := fun h => cx (Hex.out.2 h)
        have Hr0 := Lib.hid hr0; clear hr0
        have htd : d < t := by
          rcases Nat.lt_or_ge d t with c | c
          · exact c
          · exfalso
            apply cx
            refine ⟨by rw [HRd.out]; exact up_rest_low N d t c, ?_⟩
            have hm := Hmore.out
            cases more
            · rfl
            · have := hm rfl; have := Ht.out; have := He2.out; omega
        obtain ⟨j, hj⟩ : ∃ j, t = d + j := ⟨t - d, by omega⟩
        have hcq : e2 < q := by have := Ht.out; omega
        have hj0 : 0 < j := by omega
        have Hcx := Lib.hid cx; clear cx
        have Hj := Lib.hid hj; clear hj
        obtain ⟨t1, ht1⟩ : ∃ t1, t = t1 + 1 := ⟨t - 1, by omega⟩
        have ht1b : t1 ≤ 100000 := by omega
        have Ht1 := Lib.hid ht1; clear ht1
        go_wp2_with fail
        refine (rBias_c k W D E Hk.out _).mono ?_
        rintro e' w6 ⟨rfl, rfl⟩
        go_upto_if 74 with fail
        go_cut [16] (fun f wr => f = .int .i64 (flagF D N e more) ∧ wr = wc)
        case first =>
          have hfl : flagF D N e more = if (L2 : Int) + e2 ≤ 1 - biasF D then 24 else 16 := by
            unfold flagF
            rw [if_neg Hr0.out, ← HL.out]
            have := He2.out; have := HL2.out; have := Hbias.out
            by_cases c : (L2 : Int) + e2 ≤ 1 - biasF D
            · rw [if_pos c, if_pos (by omega)]
            · rw [if_neg c, if_neg (by omega)]
          have Hfl := Lib.hid hfl; clear hfl
          by_cases c : (L2 : Int) + e2 ≤ 1 - biasF D
          · go_wp2_with fail
            go_meet
            exact ⟨by rw [Hfl.out, if_pos (by omega)], rfl⟩
          · go_wp2_with fail
            go_meet
            exact ⟨by rw [Hfl.out, if_neg (by omega)], rfl⟩
        case rest =>
        obtain ⟨rfl, rfl⟩ := hcut
        go_upto_if 79 with fail
        have hH : 1 * 2 ^ t1 < 2 ^ t := by rw [Ht1.out, Nat.pow_succ]; have := Nat.two_pow_pos t1; omega
        have HH := Lib.hid hH; clear hH
        have hHf : halfF R (2 ^ t1) more = if cmpN R (1 * 2 ^ t1) = 0 ∧ more = true then 1 else cmpN R (1 * 2 ^ t1) := by rw [Nat.one_mul]; rfl
        have HHf := Lib.hid hHf; clear hHf
        have Hcv := Lib.hid (cmpN_v R (1 * 2 ^ t1))
        go_cut [20] (fun a wr => a = .int .i64 (halfF R (2 ^ t1) more) ∧ Below wc.heap.size wc wr)
        case first =>
          go_wp2_with fail
          refine (Of_c 1 1 (by decide) (by decide) _).mono ?_
          rintro e' w6 ⟨v6, rfl, hown, hb⟩
          have h6 : RN w6 v6 (bl 1) 1 := RN.of hown
          rw [bl_one] at h6
          clear hown
          obtain ⟨p6, cap6, rfl⟩ := h6.slice
          have h5 := h5.keep hb
          go_wp2_with fail
          refine (Up_c _ 1 1 (by decide) (q - e2 - 1) t1 (by have := Ht.out; have := Ht1.out; omega) (by omega) t (by rw [if_neg (by decide)]; have := Ht1.out; omega) (by decide) _ h6).mono ?_
          rintro e' w7 ⟨p7, cap7, rfl, h7, hb2⟩
          have h5 := h5.keep hb2
          have hb := bt hb hb2
          clear hb2 h6
          go_wp2_with fail
          refine (Cmp_c _ _ (bl R) t R (1 * 2 ^ t1) (by omega) (by omega) (bl_lt R) HH.out _ h5 h7).mono ?_
          rintro e' w8 ⟨rfl, rfl⟩
          clear h5 h7
          generalize cmpN R (1 * 2 ^ t1) = cv at *
          rcases Hcv.out with rfl | rfl | rfl <;> cases more
          all_goals
            go_wp2_with fail
            go_meet
            exact ⟨by rw [HHf.out]; rfl, hb⟩
        case rest =>
        obtain ⟨rfl, hb⟩ := hcut
        have h3 := h3.keep hb
        have hB := bt hB hb
        clear hb HHf Hcv h2 h5
        have hdig : ∀ w' : World, RN w' (.slice p3 LK cap3) LK K → Calls Tryd.prog 87 #[.slice p3 LK cap3, .int .i64 0] w' fun e w'' => e = .returned (.int .u8 (bd K 0 : Int)) ∧ w' = w'' :=
          fun w' hv => digit_c (.slice p3 LK cap3) LK K (by omega) (by rw [HLKd.out]; exact HKlt.out) 0 (by omega) w' hv
        have Hdig := Lib.hid hdig; clear hdig
        have hgo : goesF mode s (halfF R (2 ^ t1) more) ((bd K 0 : Int) == 1) = stepsF mode s (K : Int) (restF D N e more) := by
          rw [odd_bit, HRd.out, Hj.out]
          have ht1 : t1 = d + j - 1 := by have := Ht1.out; have := Hj.out; omega
          rw [ht1]
          have hnx : ¬ (N % 2 ^ j = 0 ∧ more = false) := fun ⟨x, y⟩ => Hcx.out ⟨by rw [HRd.out, Hj.out, up_rest, x, Nat.mul_zero], y⟩
          rw [goes_steps N d j more mode s K hj0 Hm.out Hs.out hnx]
          unfold restF
          rw [← Hq.out, show q - e = (j : Int) by have := Ht.out; have := He2.out; have := Hj.out; omega]
        have Hgo := Lib.hid hgo; clear hgo
        have hhv : halfF R (2 ^ t1) more = -1 ∨ halfF R (2 ^ t1) more = 0 ∨ halfF R (2 ^ t1) more = 1 := by
          unfold halfF; split
          · exact .inr (.inr rfl)
          · exact cmpN_v _ _
        have Hhv := Lib.hid hhv; clear hhv
        have hbd := bd_le K 0
        have hPl : (∃ x, x = stepsF mode s (K : Int) (restF D N e more)) := ⟨_, rfl⟩
        obtain ⟨S, hS⟩ := hPl
        rw [← hS] at Hgo
        have HS := Lib.hid hS; clear hS
        generalize halfF R (2 ^ t1) more = hv at *
        go_wp2_with fail
        refine (Hdig.out _ h3).mono ?_
        rintro e' w8 ⟨rfl, rfl⟩
        go_wp2_with fail
        refine (goesUp_c mode s hv ((bd K 0 : Int) == 1) Hm.out Hs.out Hhv.out _).mono ?_
        rw [Hgo.out]
        rintro e' w8 ⟨rfl, rfl⟩
        cases S
        case true =>
          go_wp2_with fail
          refine (Of_c 1 1 (by decide) (by decide) _).mono ?_
          rintro e' w9 ⟨v9, rfl, hown, hb⟩
          have h9 : RN w9 v9 (bl 1) 1 := RN.of hown
          rw [bl_one] at h9
          clear hown
          have h3 := h3.keep hb
          have hB := bt hB hb
          go_wp2_with fail
          refine (Plus_c _ _ LK 1 K 1 (by omega) (by omega) (by rw [HLKd.out]; exact HKlt.out) (by decide) _ h3 h9).mono ?_
          rintro e' w10 ⟨p10, cap10, rfl, h10, hb⟩
          have hB := bt hB hb
          go_wp2_with fail
          go_meet
          refine ⟨rfl, p10, cap10, K + 1, rfl, h10, ?_, hB⟩
          unfold mF; rw [← HKc.out, ← HS.out]; simp
        case false =>
          go_wp2_with fail
          go_meet
          refine ⟨rfl, p3, cap3, K, ?_, ?_, ?_, hB⟩
          · rw [HLKd.out]
          · rw [← HLKd.out]; exact h3
          · unfold mF; rw [← HKc.out, ← HS.out]; simp
    case rest =>
    obtain ⟨rfl, pk, capk, K', rfl, hk', hK', hB⟩ := hcut
    have hKb : (K : Int) < 2 * hid D := by
      obtain ⟨y1, y2, _, _⟩ := hid_pow W D E Hk.out.kl
      have hle : bl K ≤ D.toNat := by have := HLK.out; have := Ht.out; have := He2.out; have := HL2.out; omega
      have h1 : K < 2 ^ D.toNat := Nat.lt_of_lt_of_le HKlt.out (Nat.pow_le_pow_right (by decide) hle)
      rw [y1]; omega
    have hKr : (K : Int) ≤ K' ∧ (K' : Int) ≤ K + 1 := by
      rw [hK']; unfold mF; rw [← HKc.out]; split <;> omega
    have hg : hid D ≤ (K' : Int) ∨ q = low D := by
      by_cases c : q = low D
      · exact .inr c
      · left
        have := kept_ge W D E Hk.out.kl N e HN.out (by rw [← Hq.out]; exact c)
        rw [← HKc.out] at this; omega
    obtain ⟨z1, z2, z3, z4, z5, z6, z7, z8⟩ := tail_math W D E Hk.out.kl K' q (by omega) q2 hg
    have hsz : sizeF D mode s N e more = (dropQ D q K' - low D) * hid D + (dropK D K' : Int) := by
      unfold sizeF; rw [← hK', ← Hq.out, z1]
    rw [← z1] at z2
    have hKl : bl K' ≤ 54 := bl_mono_le _ 54 (by omega)
    have hdk : (bl K' : Int) > D → bl (dropK D K') = bl K' - 1 ∧ dropK D K' = K' / 2 ^ 1 ∧ dropQ D q K' = q + 1 := fun c => by
      unfold dropK dropQ; rw [if_pos c, if_pos c]
      refine ⟨?_, by rw [Nat.pow_one], rfl⟩
      have := bl_down K' 1 (by omega)
      rw [Nat.pow_one] at this; exact this
    have hdn : ¬ (bl K' : Int) > D → dropK D K' = K' ∧ dropQ D q K' = q := fun c => by
      unfold dropK dropQ; rw [if_neg c, if_neg c]; exact ⟨rfl, rfl⟩
    have Hdk := Lib.hid hdk; clear hdk
    have Hdn := Lib.hid hdn; clear hdn
    have HK' := Lib.hid hK'; clear hK'
    have Hsz := Lib.hid hsz; clear hsz
    have Hz1 := Lib.hid z1; clear z1
    have Hz2 := Lib.hid z2; clear z2
    have Hz3 := Lib.hid z3; clear z3
    have Hz4 := Lib.hid z4; clear z4
    have Hg := Lib.hid hg; clear hg
    obtain ⟨LK', hLK'⟩ : ∃ x, x = bl K' := ⟨_, rfl⟩
    rw [← hLK'] at hk' hKl Hdk Hdn ⊢
    have HLK' := Lib.hid hLK'; clear hLK'
    go_upto_if 106 with fail
    go_cut [15, 17] (fun a b wr => a = .int .i64 (dropQ D q K') ∧ ∃ (p : Option Addr) (cap : Nat), b = .slice p (bl (dropK D K')) cap ∧ RN wr (.slice p (bl (dropK D K')) cap) (bl (dropK D K')) (dropK D K') ∧ Below w.heap.size w wr)
    case first =>
      by_cases c : (LK' : Int) > D
      · have hd := Lib.hid (Hdk.out c)
        go_wp2_with fail
        refine (Down_c _ LK' K' (by omega) 1 1 rfl (by decide) _ hk').mono ?_
        rintro e' w6 ⟨p6, cap6, rfl, h6, hb⟩
        have hB := bt hB hb
        go_wp2_with fail
        go_meet
        obtain ⟨d1, d2, d3⟩ := hd.out
        refine ⟨by rw [d3], p6, cap6, by rw [d1], ?_, hB⟩
        rw [d1, d2]; exact h6
      · have hd := Lib.hid (Hdn.out c)
        go_wp2_with fail
        go_meet
        obtain ⟨d1, d2⟩ := hd.out
        refine ⟨by rw [d2], pk, capk, by rw [d1, HLK'.out], ?_, hB⟩
        rw [d1, ← HLK'.out]; exact hk'
    case rest =>
    obtain ⟨rfl, p8, cap8, rfl, h8, hB⟩ := hcut
    clear hk' hKr
    generalize dropQ D q K' = Q at *
    generalize dropK D K' = M at *
    obtain ⟨LM, hLM⟩ : ∃ x, x = bl M := ⟨_, rfl⟩
    have hMlt := bl_lt M
    rw [← hLM] at h8 z5 Hz2 Hz3 Hz4 hMlt ⊢
    have HLM := Lib.hid hLM; clear hLM
    have HMlt := Lib.hid hMlt; clear hMlt
    have hLM64 : LM ≤ 64 := by omega
    have hMw : wrap64 (M : Int) = (M : Int) := by unfold wrap64; omega
    have HMw := Lib.hid hMw; clear hMw
    have hout : ∀ x y : Int, (roundF W D mode s N e more) = (x, y) → Ending.returned (.tuple #[.int .i64 x, .int .i64 y]) = Ending.returned (.tuple #[.int .i64 (roundF W D mode s N e more).1, .int .i64 (roundF W D mode s N e more).2]) := fun x y h => by rw [h]
    have Hout := Lib.hid hout; clear hout
    go_wp2_with fail
    refine (rBias_c k W D E Hk.out _).mono ?_
    rintro e' w6 ⟨rfl, rfl⟩
    by_cases O : endl D ≤ (Q - low D) * hid D + M
    · have hgt := Hz2.out.1 O
      have hrf : roundF W D mode s N e more = (ovF W D mode s, 20) := by
        unfold roundF; rw [Hsz.out, if_pos O]
      have Hrf := Lib.hid hrf; clear hrf
      have HO := Lib.hid O; clear O
      go_wp2_with fail
      refine (goesUp_c mode s 1 true Hm.out Hs.out (.inr (.inr rfl)) _).mono ?_
      rw [goes_inf mode s Hm.out Hs.out]
      rintro e' w6 ⟨rfl, rfl⟩
      cases hT : toInf mode s
      · go_wp2_with fail
        refine (rgreatest_c k W D E s Hk.out Hs.out _).mono ?_
        rintro e' w7 ⟨rfl, hb⟩
        go_wp2_with fail
        go_ret2
        exact ⟨Hout.out _ _ (by rw [Hrf.out]; unfold ovF; rw [hT]; rfl), bt hB hb⟩
      · go_wp2_with fail
        refine (rInfinite_c k W D E s Hk.out Hs.out _).mono ?_
        rintro e' w7 ⟨rfl, hb⟩
        go_wp2_with fail
        go_ret2
        exact ⟨Hout.out _ _ (by rw [Hrf.out]; unfold ovF; rw [hT]; rfl), bt hB hb⟩
    · have hle : ¬ (LM : Int) + Q > biasF D + 1 := fun h => O (Hz2.out.2 h)
      have hrf : roundF W D mode s N e more = (jn W s ((Q - low D) * hid D + M), flagF D N e more) := by
        unfold roundF; rw [Hsz.out, if_neg O]
      have Hrf := Lib.hid hrf; clear hrf
      have hsl : (Q - low D) * hid D + M < hf W := by
        have : endl D < hf W := by rcases Hk.out.kl with ⟨rfl, rfl, rfl⟩ | ⟨rfl, rfl, rfl⟩ | ⟨rfl, rfl, rfl⟩ <;> decide
        omega
      have Hsl := Lib.hid hsl; clear hsl
      have HO := Lib.hid O; clear O
      go_wp2_with fail
      refine (Int_c _ LM M hLM64 HMlt.out _ h8).mono ?_
      rw [HMw.out]
      rintro e' w6 ⟨rfl, rfl⟩
      by_cases c : (LM : Int) < D
      · obtain ⟨c1, c2⟩ := Hz3.out c
        have hrb := Lib.hid (fun w' => rbits_c k W D E s 0 M Hk.out Hs.out (Int.le_refl _) (by have := Hsl.out; rw [c1, Int.sub_self] at this; exact this) (by omega) c2 w')
        rw [show 0 * hid D + (M : Int) = M by omega] at hrb
        have hrf2 := Lib.hid (show roundF W D mode s N e more = (jn W s (M : Int), flagF D N e more) by rw [Hrf.out, c1, Int.sub_self, Int.zero_mul, Int.zero_add])
        have Hc1 := Lib.hid c1; clear c1
        go_wp2_with fail
        refine (hrb.out _).mono ?_
        rintro e' w7 ⟨rfl, hb⟩
        go_wp2_with fail
        go_ret2
        exact ⟨Hout.out _ _ hrf2.out, bt hB hb⟩
      · have c2 := Hz4.out (by omega)
        have he : (Q - low D + 1) * hid D + (M - hid D) = (Q - low D) * hid D + M := by rw [Int.add_mul]; omega
        have hrb := Lib.hid (fun w' => rbits_c k W D E s (Q - low D + 1) (M - hid D) Hk.out Hs.out (by omega) (by rw [he]; exact Hsl.out) (by omega) (by omega) w')
        have hrf2 := Lib.hid (show roundF W D mode s N e more = (jn W s ((Q - low D + 1) * hid D + (M - hid D)), flagF D N e more) by rw [Hrf.out, he])
        have He := Lib.hid he; clear he
        have v1 : IntKind.i64.wrap (Q - low D) = Q - low D := IntWalk.i64_in _ (by omega)
        have v2 : IntKind.i64.wrap (Q - low D + 1) = Q - low D + 1 := IntWalk.i64_in _ (by omega)
        have v3 : IntKind.i64.wrap (M - hid D) = M - hid D := IntWalk.i64_in _ (by omega)
        have w10 : IntKind.i64.wrap 10 = 10 := by decide
        have w23 : IntKind.i64.wrap 23 = 23 := by decide
        have w52 : IntKind.i64.wrap 52 = 52 := by decide
        have x10 : IntKind.i64.wrap 1024 = 1024 := by decide
        have x23 : IntKind.i64.wrap 8388608 = 8388608 := by decide
        have x52 : IntKind.i64.wrap 4503599627370496 = 4503599627370496 := by decide
        clear c2 hb1 hb2 hb3 z6
        go_upto_region 30 with fail
        clear c z5 hD0 hD1
        rcases Hk.out with ⟨rfl, rfl, rfl, rfl⟩ | ⟨rfl, rfl, rfl, rfl⟩ | ⟨rfl, rfl, rfl, rfl⟩
        all_goals
          first | rw [show hid 11 = 1024 from rfl] at hrb hrf2 v3 | rw [show hid 24 = 8388608 from rfl] at hrb hrf2 v3 | rw [show hid 53 = 4503599627370496 from rfl] at hrb hrf2 v3
          go_region_held3 (fun w' => Below w.heap.size w w')
            (first | exact hB | exact hB.drew | exact bt (by assumption) hb | exact (by assumption : Below w.heap.size w _).drew)
            (first | (go_at_call 98; refine (rleast_c _ _ _ _ Hk.out _).mono ?_; rintro e' w7 ⟨rfl, hb⟩) | (go_at_call 95; refine (hrb.out _).mono ?_; rintro e' w8 ⟨rfl, hb⟩))
          rename_i hH
          go_wp2_with fail
          go_ret2
          exact ⟨Hout.out _ _ hrf2.out, hH⟩
end Go.Proofs.YtfdenbgmogojeaaDoor
