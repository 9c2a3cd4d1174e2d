/- Contract of math/bits.Div64 where the low word of the dividend is 0 and the divisor has its highest bit: the quotient and the rest; premises as written. -/
import Derived.Test.YtfdenbgmogojeaaDoorFloD
import Derived.Deep.DeepCutAuto
import Derived.Deep.CutBlock
import Derived.Laws.Bits64b
namespace Go.Proofs.YtfdenbgmogojeaaDoor
open Go.RowKit

/-- A digit of the quotient: what holds while it is guessed. -/
def DG (U y a b : Nat) : Prop := a ≤ 4294967297 ∧ U * 4294967296 / y ≤ a ∧ b + a * (y / 4294967296) = U
theorem dg_first (U y : Nat) (hy : 9223372036854775808 ≤ y) (_hy1 : y < 18446744073709551616) (hU : U < y) : DG U y (U / (y / 4294967296)) (U - U / (y / 4294967296) * (y / 4294967296)) := by
  obtain ⟨d, hd⟩ : ∃ d, d = y / 4294967296 := ⟨_, rfl⟩
  have d0 : 2147483648 ≤ d := by omega
  rw [← hd]
  have hm := Nat.div_mul_le_self U d
  refine ⟨?_, ?_, by rw [← hd]; omega⟩
  · have : U / d < 4294967298 := by
      rw [Nat.div_lt_iff_lt_mul (by omega)]
      omega
    omega
  · rw [Nat.le_div_iff_mul_le (by omega)]
    have h1 := Nat.div_mul_le_self (U * 4294967296) y
    have h2 : U * 4294967296 / y * (d * 4294967296) ≤ U * 4294967296 / y * y := Nat.mul_le_mul_left _ (by omega)
    rw [← Nat.mul_assoc] at h2
    omega
theorem dg_r (U y : Nat) (hy : 9223372036854775808 ≤ y) (_hy1 : y < 18446744073709551616) : U - U / (y / 4294967296) * (y / 4294967296) < 4294967296 := by
  have h1 := Nat.div_add_mod U (y / 4294967296)
  have h2 := Nat.mod_lt U (show 0 < y / 4294967296 by omega)
  rw [Nat.mul_comm] at h1
  omega
/-- y in its two digits. -/
theorem dg_y (a y : Nat) : a * y = a * (y / 4294967296) * 4294967296 + a * (y % 4294967296) := by
  have h := Nat.div_add_mod y 4294967296
  calc a * y = a * (4294967296 * (y / 4294967296) + y % 4294967296) := by rw [h]
    _ = _ := by rw [Nat.mul_add, Nat.mul_comm 4294967296, Nat.mul_assoc]
theorem dg_end (U y a b : Nat) (hy : 0 < y) (h : DG U y a b) (hc : a * (y % 4294967296) ≤ 4294967296 * b) : a = U * 4294967296 / y := by
  obtain ⟨_, h2, h3⟩ := h
  apply Nat.le_antisymm _ h2
  rw [Nat.le_div_iff_mul_le hy, dg_y, ← h3, Nat.add_mul]
  omega
theorem dg_step (U y a b : Nat) (hy : 0 < y) (hU : U < y) (h : DG U y a b) (hc : 4294967296 ≤ a ∨ 4294967296 * b < a * (y % 4294967296)) : 0 < a ∧ DG U y (a - 1) (b + y / 4294967296) ∧ a - 1 ≤ 4294967296 := by
  obtain ⟨h1, h2, h3⟩ := h
  have ha : 0 < a := by
    rcases hc with c | c
    · omega
    · rcases Nat.eq_zero_or_pos a with q | q
      · rw [q] at c; omega
      · exact q
  have hlt : U * 4294967296 / y < a := by
    rcases hc with c | c
    · have : U * 4294967296 / y < 4294967296 := by rw [Nat.div_lt_iff_lt_mul hy]; omega
      omega
    · rw [Nat.div_lt_iff_lt_mul hy, dg_y a y, ← h3, Nat.add_mul]; omega
  refine ⟨ha, ⟨by omega, by omega, ?_⟩, by omega⟩
  obtain ⟨c, rfl⟩ : ∃ c, a = c + 1 := ⟨a - 1, by omega⟩
  rw [Nat.add_mul] at h3
  show b + y / 4294967296 + (c + 1 - 1) * (y / 4294967296) = U
  rw [Nat.add_sub_cancel]; omega
theorem dg_far (y a b : Nat) (h : a ≤ 4294967296) (hb : 4294967296 ≤ b) : a * (y % 4294967296) ≤ 4294967296 * b := by
  have h1 : a * (y % 4294967296) ≤ 4294967296 * 4294967295 := Nat.mul_le_mul h (by omega)
  omega
theorem dg_mul (y a : Nat) (ha : a ≤ 4294967297) : a * (y % 4294967296) < 18446744073709551616 := by
  have h1 : a * (y % 4294967296) ≤ 4294967297 * 4294967295 := Nat.mul_le_mul ha (by omega)
  omega

theorem dm_sum (a y q v x : Nat) (hq : q = a / y) (hv : v = a % y) (hx : x = q * y) : a = x + v := by
  subst hq hv hx
  have := Nat.div_add_mod a y
  rw [Nat.mul_comm] at this; exact this.symm
theorem dm_two (u y Qa Qc x1 x2 v t : Nat) (hx1 : x1 = Qa * y) (hx2 : x2 = Qc * y) (r1 : u * 4294967296 = x1 + v) (r2 : v * 4294967296 = x2 + t) (ht : t < y) :
    u * 18446744073709551616 / y = Qa * 4294967296 + Qc ∧ u * 18446744073709551616 % y = t := by
  have h1 : u * 18446744073709551616 = (Qa * 4294967296 + Qc) * y + t := by
    rw [Nat.add_mul, Nat.mul_right_comm, ← hx1, ← hx2, show u * 18446744073709551616 = u * 4294967296 * 4294967296 by rw [Nat.mul_assoc], r1, Nat.add_mul, r2, Nat.add_assoc]
  have hy0 : 0 < y := by omega
  rw [h1, Nat.add_comm, Nat.add_mul_div_right _ _ hy0, Nat.div_eq_of_lt ht, Nat.zero_add, Nat.add_mul_mod_self_right, Nat.mod_eq_of_lt ht]
  exact ⟨rfl, rfl⟩

set_option maxRecDepth 100000 in
set_option maxHeartbeats 4000000 in
theorem Div64_c (u y : Nat) (hy : 9223372036854775808 ≤ y) (hy1 : y < 18446744073709551616) (hu : u < y) (hu0 : 0 < u) (w : World) :
    Calls Tryd.prog 119 #[.int .u64 u, .int .u64 0, .int .u64 y] w fun e w' => e = .returned (.tuple #[.int .u64 ((u * 18446744073709551616 / y : Nat) : Int), .int .u64 ((u * 18446744073709551616 % y : Nat) : Int)]) ∧ w = w' := by
  have hbl : bl (y : Int).toNat = 64 := by
    rw [Int.toNat_natCast]
    have h1 := bl_mono_le y 64 (by omega)
    have h2 : 63 < bl y := by
      have h3 := bl_lt y
      rcases Nat.lt_or_ge 63 (bl y) with c | c
      · exact c
      · have := Nat.pow_le_pow_right (by decide : 1 ≤ 2) c; omega
    omega
  have hlz := Lib.hid (fun w' => LeadingZeros64_c (y : Int) (by omega) (by omega) w')
  rw [hbl] at hlz
  have z1 : ((y : Int) == 0) = false := by simp; omega
  have z2 : ((u : Int) == 0) = false := by simp; omega
  have z3 : decide ((y : Int) ≤ (u : Int)) = false := by simp; omega
  have a1 : bits .or .u64 (u : Int) 0 = (u : Int) := by
    have h := bits_or_u64_nat u 0 (by omega) (by omega)
    rw [Nat.or_zero] at h; exact h
  have a3 : bits .and .u64 0 4294967295 = 0 := by decide
  obtain ⟨d, hd⟩ : ∃ d, d = y / 4294967296 := ⟨_, rfl⟩
  obtain ⟨r, hr⟩ : ∃ r, r = y % 4294967296 := ⟨_, rfl⟩
  have a2 : bits .and .u64 (y : Int) 4294967295 = (r : Int) := by
    have h := bits_and_u64_nat y 4294967295 hy1 (by omega)
    have e : y &&& 4294967295 = y % 4294967296 := Nat.and_two_pow_sub_one_eq_mod y 32
    rw [e, ← hr] at h
    exact h
  have a4 : (y : Int) / 4294967296 = (d : Int) := by omega
  have d0 : 2147483648 ≤ d ∧ d < 4294967296 ∧ r < 4294967296 := by omega
  obtain ⟨d0, d1, r1⟩ := d0
  have f1 := dg_first u y hy hy1 hu
  have f2 := dg_r u y hy hy1
  rw [← hd] at f1 f2
  obtain ⟨q, hq⟩ : ∃ q, q = u / d := ⟨_, rfl⟩
  rw [← hq] at f1 f2
  obtain ⟨b, hb⟩ : ∃ b, b = u - q * d := ⟨_, rfl⟩
  rw [← hb] at f1 f2
  have qd : q * d ≤ u := by rw [hq]; exact Nat.div_mul_le_self _ _
  have q1 : q ≤ 4294967297 := f1.1
  have b1 : (u : Int) / d = (q : Int) := by rw [hq]; rfl
  have b2 : (u : Int).tdiv d = (q : Int) := by rw [hq]; rfl
  obtain ⟨m, hm⟩ : ∃ m, m = q * d := ⟨_, rfl⟩
  have b3 : (q : Int) * d = (m : Int) := by rw [hm]; simp
  rw [← hm] at hb qd
  have b4 : (u : Int) - (m : Int) = (b : Int) := by omega
  obtain ⟨Qa, hQa⟩ : ∃ Qa, Qa = u * 4294967296 / y := ⟨_, rfl⟩
  obtain ⟨v, hv⟩ : ∃ v, v = u * 4294967296 % y := ⟨_, rfl⟩
  have hvy : v < y := by rw [hv]; exact Nat.mod_lt _ (by omega)
  have hQb : Qa < 4294967296 := by rw [hQa, Nat.div_lt_iff_lt_mul (by omega)]; omega
  have g1 := dg_first v y hy hy1 hvy
  have g2 := dg_r v y hy hy1
  rw [← hd] at g1 g2
  obtain ⟨q', hq'⟩ : ∃ q', q' = v / d := ⟨_, rfl⟩
  rw [← hq'] at g1 g2
  obtain ⟨b', hb'⟩ : ∃ b', b' = v - q' * d := ⟨_, rfl⟩
  rw [← hb'] at g1 g2
  have qd' : q' * d ≤ v := by rw [hq']; exact Nat.div_mul_le_self _ _
  have q1' : q' ≤ 4294967297 := g1.1
  have b1' : (v : Int) / d = (q' : Int) := by rw [hq']; rfl
  have b2' : (v : Int).tdiv d = (q' : Int) := by rw [hq']; rfl
  obtain ⟨m', hm'⟩ : ∃ m', m' = q' * d := ⟨_, rfl⟩
  have b3' : (q' : Int) * d = (m' : Int) := by rw [hm']; simp
  rw [← hm'] at hb' qd'
  have b4' : (v : Int) - (m' : Int) = (b' : Int) := by omega
  obtain ⟨Qc, hQc⟩ : ∃ Qc, Qc = v * 4294967296 / y := ⟨_, rfl⟩
  obtain ⟨t, ht⟩ : ∃ t, t = v * 4294967296 % y := ⟨_, rfl⟩
  have hQd : Qc < 4294967296 := by rw [hQc, Nat.div_lt_iff_lt_mul (by omega)]; omega
  have hty : t < y := by rw [ht]; exact Nat.mod_lt _ (by omega)
  obtain ⟨x1, hx1⟩ : ∃ x1, x1 = Qa * y := ⟨_, rfl⟩
  obtain ⟨x2, hx2⟩ : ∃ x2, x2 = Qc * y := ⟨_, rfl⟩
  have e1 : (Qa : Int) * y = (x1 : Int) := by rw [hx1]; simp
  have e2 : (Qc : Int) * y = (x2 : Int) := by rw [hx2]; simp
  have r1a : u * 4294967296 = x1 + v := by
    exact dm_sum _ y _ _ _ hQa hv hx1
  have r2a : v * 4294967296 = x2 + t := by
    exact dm_sum _ y _ _ _ hQc ht hx2
  have e3 : IntKind.u64.wrap (IntKind.u64.wrap (IntKind.u64.wrap ((u : Int) * 4294967296)) - IntKind.u64.wrap (x1 : Int)) = (v : Int) := by
    simp only [IntKind.wrap_u64]; omega
  have e4 : IntKind.u64.wrap (IntKind.u64.wrap (IntKind.u64.wrap ((v : Int) * 4294967296)) - IntKind.u64.wrap (x2 : Int)) = (t : Int) := by
    simp only [IntKind.wrap_u64]; omega
  have hfin : u * 18446744073709551616 / y = Qa * 4294967296 + Qc ∧ u * 18446744073709551616 % y = t := by
    exact dm_two u y Qa Qc x1 x2 v t hx1 hx2 r1a r2a hty
  have HY := Lib.hid hy; clear hy
  have HY1 := Lib.hid hy1
  have HU := Lib.hid hu; clear hu
  have HV := Lib.hid hvy; clear hvy
  have n1 : (y : Int) ≤ 18446744073709551615 := by omega
  have n2 : (u : Int) < y := by have := HU.out; omega
  have n3 : (v : Int) < y := by have := HV.out; omega
  have n4 : (d : Int) ≤ 4294967295 := by omega
  have n5 : (2147483648 : Int) ≤ d := by omega
  have n6 : (r : Int) ≤ 4294967295 := by omega
  have n7 : (q : Int) ≤ 4294967297 := by omega
  have n8 : (q' : Int) ≤ 4294967297 := by omega
  have n9 : (m : Int) ≤ u := by omega
  have n10 : (m' : Int) ≤ v := by omega
  have n11 : (Qa : Int) ≤ 4294967295 := by omega
  have n12 : (Qc : Int) ≤ 4294967295 := by omega
  have n13 : (t : Int) < y := by omega
  have n14 : (b : Int) ≤ u := by omega
  have n15 : (b' : Int) ≤ v := by omega
  have F1 := Lib.hid f1; clear f1
  have G1 := Lib.hid g1; clear g1
  have F2 := Lib.hid f2; clear f2
  have G2 := Lib.hid g2; clear g2
  have Hd := Lib.hid hd; clear hd
  have Hr := Lib.hid hr; clear hr
  have HQa := Lib.hid hQa; clear hQa
  have HQc := Lib.hid hQc; clear hQc
  have Hfin := Lib.hid hfin; clear hfin
  clear hbl hq hb hq' hb' hm hm' hv ht hx1 hx2 r1a r2a hy1 q1 q1' qd qd' hQb hQd hty d0 d1 r1 hu0
  have Hsec := Lib.hid (And.intro b1' (And.intro b2' (And.intro b3' (And.intro b4' (And.intro e2 e4)))))
  clear b1' b2' b3' b4' e2 e4
  have Hfst := Lib.hid (And.intro e1 e3)
  clear e1 e3
  have Hn := Lib.hid (And.intro n3 (And.intro n8 (And.intro n10 (And.intro n11 (And.intro n12 (And.intro n13 n15))))))
  clear n3 n8 n10 n11 n12 n13 n15
  go_enter Tryd.func119, Tryd.ntmps119
  go_wp2_with fail
  refine (hlz.out _).mono ?_
  rintro e w1 ⟨rfl, rfl⟩
  go_upto_block 0 with fail
  go_cut [15, 16] (fun x z wr => ∃ Q1 b1 : Nat, x = .int .u64 Q1 ∧ z = .int .u64 b1 ∧ Q1 = u * 4294967296 / y ∧ wr = w)
  case first =>
    go_wp2_with fail
    go_loop [15, 16] (fun x z => ∃ a c : Nat, x = .int .u64 a ∧ z = .int .u64 c ∧ DG u y a c ∧ c < 4294967296) (fun x _ => (intOf x).toNat)
    case atStart => exact ⟨_, _, rfl, rfl, F1.out, F2.out⟩
    case round =>
      obtain ⟨a, c, rfl, rfl, hD, hc⟩ := hrel
      have hY := HY.out
      have ha := hD.1
      have hm1 := dg_mul y a ha
      have hst := dg_step u y a c (by omega) HU.out hD
      have hen := dg_end u y a c (by omega) hD
      rw [← Hr.out] at hm1 hst hen
      rw [← Hd.out] at hst
      obtain ⟨P, hP⟩ : ∃ P, P = a * r := ⟨_, rfl⟩
      rw [← hP] at hm1 hst hen
      have p1 : (a : Int) * r = (P : Int) := by rw [hP]; simp
      have HP := Lib.hid hP; clear hP
      have HD := Lib.hid hD; clear hD
      have Hst := Lib.hid hst; clear hst
      have Hen := Lib.hid hen; clear hen
      have i1 : (a : Int) ≤ 4294967297 := by omega
      have i2 : (c : Int) ≤ 4294967295 := by omega
      have i3 : (P : Int) ≤ 18446744073709551615 := by omega
      have i4 : (0 : Int) ≤ a := by omega
      have i5 : (0 : Int) ≤ c := by omega
      have i6 : (0 : Int) ≤ P := by omega
      have Ha := Lib.hid ha; clear ha
      have Hc := Lib.hid hc; clear hc
      have Hm1 := Lib.hid hm1; clear hm1 hY
      by_cases c1 : 4294967296 ≤ a
      · obtain ⟨s1, s2, s3⟩ := Hst.out (.inl c1)
        obtain ⟨a', rfl⟩ : ∃ a', a = a' + 1 := ⟨a - 1, by omega⟩
        rw [Nat.add_sub_cancel] at s2 s3
        have S2 := Lib.hid s2; clear s2
        have k1 : (4294967296 : Int) ≤ (a' : Int) + 1 := by omega
        have C1 := Lib.hid c1; clear c1
        have S3 := Lib.hid s3; clear s3 s1
        by_cases c3 : 4294967296 ≤ c + d
        · have k3 : (4294967296 : Int) ≤ (c : Int) + (d : Int) := by omega
          have C3 := Lib.hid c3; clear c3
          go_wp2_with fail
          go_meet
          exact ⟨a', c + d, by go_num, by go_num, dg_end u y _ _ (by have := HY.out; omega) S2.out (dg_far y _ _ S3.out C3.out), rfl⟩
        · have k3 : decide ((4294967296 : Int) ≤ (c : Int) + (d : Int)) = false := by simp; omega
          have C3 := Lib.hid c3; clear c3
          go_wp2_with fail
          go_round
          case rel => exact ⟨a', c + d, by go_num, by go_num, S2.out, by have := C3.out; omega⟩
          case measure => simp [intOf]
      · have k1 : decide ((4294967296 : Int) ≤ (a : Int)) = false := by simp; omega
        by_cases c2 : 4294967296 * c < P
        · obtain ⟨s1, s2, s3⟩ := Hst.out (.inr c2)
          obtain ⟨a', ha'⟩ : ∃ a', a' = a - 1 := ⟨_, rfl⟩
          rw [← ha'] at s2 s3
          have k0 : (a : Int) - 1 = (a' : Int) := by omega
          have k4 : (1 : Int) ≤ (a : Int) := by omega
          have Ha' := Lib.hid ha'; clear ha'
          have S2 := Lib.hid s2; clear s2
          have k2 : decide ((4294967296 : Int) * (c : Int) < (P : Int)) = true := by simp; omega
          have C1 := Lib.hid c1; clear c1
          have C2 := Lib.hid c2; clear c2
          have S3 := Lib.hid s3; clear s3 s1
          by_cases c3 : 4294967296 ≤ c + d
          · have k3 : (4294967296 : Int) ≤ (c : Int) + (d : Int) := by omega
            have C3 := Lib.hid c3; clear c3
            go_wp2_with fail
            go_meet
            exact ⟨a', c + d, by go_num, by go_num, dg_end u y _ _ (by have := HY.out; omega) S2.out (dg_far y _ _ S3.out C3.out), rfl⟩
          · have k3 : decide ((4294967296 : Int) ≤ (c : Int) + (d : Int)) = false := by simp; omega
            have C3 := Lib.hid c3; clear c3
            go_wp2_with fail
            go_round
            case rel => exact ⟨a', c + d, by go_num, by go_num, S2.out, by have := C3.out; omega⟩
            case measure => have := Ha'.out; simp [intOf]; omega
        · have k2 : decide ((4294967296 : Int) * (c : Int) < (P : Int)) = false := by simp; omega
          have C1 := Lib.hid c1; clear c1
          have C2 := Lib.hid c2; clear c2
          go_wp2_with fail
          go_meet
          exact ⟨a, c, rfl, rfl, Hen.out (by have := C2.out; omega), rfl⟩
  case rest =>
  obtain ⟨Q1, b1'', rfl, rfl, hQ, rfl⟩ := hcut
  rw [← HQa.out] at hQ
  subst hQ
  clear b1 b2 b3 b4
  obtain ⟨n3, n8, n10, n11, n12, n13, n15⟩ := Hn.out
  obtain ⟨b1', b2', b3', b4', _⟩ := Hsec.out
  obtain ⟨e1, e3⟩ := Hfst.out
  go_upto_block 2 with fail
  go_cut [18, 16] (fun x z wr => ∃ Q1 b1 : Nat, x = .int .u64 Q1 ∧ z = .int .u64 b1 ∧ Q1 = v * 4294967296 / y ∧ wr = wc)
  case first =>
    go_wp2_with fail
    go_loop [18, 16] (fun x z => ∃ a c : Nat, x = .int .u64 a ∧ z = .int .u64 c ∧ DG v y a c ∧ c < 4294967296) (fun x _ => (intOf x).toNat)
    case atStart => exact ⟨_, _, rfl, rfl, G1.out, G2.out⟩
    case round =>
      obtain ⟨a, c, rfl, rfl, hD, hc⟩ := hrel
      have hY := HY.out
      have ha := hD.1
      have hm1 := dg_mul y a ha
      have hst := dg_step v y a c (by omega) HV.out hD
      have hen := dg_end v y a c (by omega) hD
      rw [← Hr.out] at hm1 hst hen
      rw [← Hd.out] at hst
      obtain ⟨P, hP⟩ : ∃ P, P = a * r := ⟨_, rfl⟩
      rw [← hP] at hm1 hst hen
      have p1 : (a : Int) * r = (P : Int) := by rw [hP]; simp
      have HP := Lib.hid hP; clear hP
      have HD := Lib.hid hD; clear hD
      have Hst := Lib.hid hst; clear hst
      have Hen := Lib.hid hen; clear hen
      have i1 : (a : Int) ≤ 4294967297 := by omega
      have i2 : (c : Int) ≤ 4294967295 := by omega
      have i3 : (P : Int) ≤ 18446744073709551615 := by omega
      have i4 : (0 : Int) ≤ a := by omega
      have i5 : (0 : Int) ≤ c := by omega
      have i6 : (0 : Int) ≤ P := by omega
      have Ha := Lib.hid ha; clear ha
      have Hc := Lib.hid hc; clear hc
      have Hm1 := Lib.hid hm1; clear hm1 hY
      by_cases c1 : 4294967296 ≤ a
      · obtain ⟨s1, s2, s3⟩ := Hst.out (.inl c1)
        obtain ⟨a', rfl⟩ : ∃ a', a = a' + 1 := ⟨a - 1, by omega⟩
        rw [Nat.add_sub_cancel] at s2 s3
        have S2 := Lib.hid s2; clear s2
        have k1 : (4294967296 : Int) ≤ (a' : Int) + 1 := by omega
        have C1 := Lib.hid c1; clear c1
        have S3 := Lib.hid s3; clear s3 s1
        by_cases c3 : 4294967296 ≤ c + d
        · have k3 : (4294967296 : Int) ≤ (c : Int) + (d : Int) := by omega
          have C3 := Lib.hid c3; clear c3
          go_wp2_with fail
          go_meet
          exact ⟨a', c + d, by go_num, by go_num, dg_end v y _ _ (by have := HY.out; omega) S2.out (dg_far y _ _ S3.out C3.out), rfl⟩
        · have k3 : decide ((4294967296 : Int) ≤ (c : Int) + (d : Int)) = false := by simp; omega
          have C3 := Lib.hid c3; clear c3
          go_wp2_with fail
          go_round
          case rel => exact ⟨a', c + d, by go_num, by go_num, S2.out, by have := C3.out; omega⟩
          case measure => simp [intOf]
      · have k1 : decide ((4294967296 : Int) ≤ (a : Int)) = false := by simp; omega
        by_cases c2 : 4294967296 * c < P
        · obtain ⟨s1, s2, s3⟩ := Hst.out (.inr c2)
          obtain ⟨a', ha'⟩ : ∃ a', a' = a - 1 := ⟨_, rfl⟩
          rw [← ha'] at s2 s3
          have k0 : (a : Int) - 1 = (a' : Int) := by omega
          have k4 : (1 : Int) ≤ (a : Int) := by omega
          have Ha' := Lib.hid ha'; clear ha'
          have S2 := Lib.hid s2; clear s2
          have k2 : decide ((4294967296 : Int) * (c : Int) < (P : Int)) = true := by simp; omega
          have C1 := Lib.hid c1; clear c1
          have C2 := Lib.hid c2; clear c2
          have S3 := Lib.hid s3; clear s3 s1
          by_cases c3 : 4294967296 ≤ c + d
          · have k3 : (4294967296 : Int) ≤ (c : Int) + (d : Int) := by omega
            have C3 := Lib.hid c3; clear c3
            go_wp2_with fail
            go_meet
            exact ⟨a', c + d, by go_num, by go_num, dg_end v y _ _ (by have := HY.out; omega) S2.out (dg_far y _ _ S3.out C3.out), rfl⟩
          · have k3 : decide ((4294967296 : Int) ≤ (c : Int) + (d : Int)) = false := by simp; omega
            have C3 := Lib.hid c3; clear c3
            go_wp2_with fail
            go_round
            case rel => exact ⟨a', c + d, by go_num, by go_num, S2.out, by have := C3.out; omega⟩
            case measure => have := Ha'.out; simp [intOf]; omega
        · have k2 : decide ((4294967296 : Int) * (c : Int) < (P : Int)) = false := by simp; omega
          have C1 := Lib.hid c1; clear c1
          have C2 := Lib.hid c2; clear c2
          go_wp2_with fail
          go_meet
          exact ⟨a, c, rfl, rfl, Hen.out (by have := C2.out; omega), rfl⟩
  case rest =>
  obtain ⟨Q1, b1'', rfl, rfl, hQ, rfl⟩ := hcut
  rw [← HQc.out] at hQ
  subst hQ
  clear b1' b2' b3' b4' e1 e3
  obtain ⟨_, _, _, _, e2, e4⟩ := Hsec.out
  go_wp2_with fail
  go_ret2
  exact ⟨by rw [Hfin.out.1, Hfin.out.2]; go_num, rfl⟩
end Go.Proofs.YtfdenbgmogojeaaDoor
