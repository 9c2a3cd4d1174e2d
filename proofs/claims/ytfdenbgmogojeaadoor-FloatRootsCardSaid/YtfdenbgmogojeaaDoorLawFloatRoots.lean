/-
  PROVED: the law FloatRoots (what roots are, and their flags, is the document's answer) returns true for every three ints and leaves them as they were. Conditions: the table of class names holds what the program's text lays (tied by the card).
-/
import Derived.Test.YtfdenbgmogojeaaDoorLawB
import Derived.Test.YtfdenbgmogojeaaDoorFloMd
import Derived.Test.YtfdenbgmogojeaaDoorRefS
import Derived.Test.YtfdenbgmogojeaaDoorRefY
import Derived.Test.YtfdenbgmogojeaaDoorCards
import Derived.Test.YtfdenbgmogojeaaDoorTie
import Derived.SevenTiedAt
namespace Go.Proofs.YtfdenbgmogojeaaDoor
open Go.RowKit

/-- r is the whole root of N. -/
def IsRt (N r : Nat) : Prop := r * r ≤ N ∧ N < (r + 1) * (r + 1)
theorem sq_le {a b : Nat} (h : a ≤ b) : a * a ≤ b * b := Nat.mul_le_mul h h
theorem sq_lt {a b : Nat} (h : a < b) : a * a < b * b := by
  have h1 := sq_le (show a + 1 ≤ b by omega)
  have h2 : (a + 1) * (a + 1) = a * a + 2 * a + 1 := by rw [Nat.add_mul, Nat.mul_add]; omega
  omega
theorem lt_of_sq {a b : Nat} (h : a * a < b * b) : a < b := by
  rcases Nat.lt_or_ge a b with c | c
  · exact c
  · have := sq_le c; omega
theorem rt_uniq {N r s : Nat} (h : IsRt N r) (k : IsRt N s) : r = s := by
  have h1 := lt_of_sq (Nat.lt_of_le_of_lt h.1 k.2)
  have h2 := lt_of_sq (Nat.lt_of_le_of_lt k.1 h.2)
  omega
theorem rt_ex (N : Nat) : ∃ r, IsRt N r := by
  induction N with
  | zero => exact ⟨0, by unfold IsRt; omega⟩
  | succ n ih =>
    obtain ⟨r, h1, h2⟩ := ih
    by_cases c : (r + 1) * (r + 1) ≤ n + 1
    · exact ⟨r + 1, c, by have := sq_lt (show r + 1 < r + 1 + 1 by omega); omega⟩
    · exact ⟨r, by omega, by omega⟩
theorem rt_scale (N' r' N r i : Nat) (hN : N = N' * 2 ^ (2 * i)) (h' : IsRt N' r') (h : IsRt N r) : ∃ x, r = r' * 2 ^ i + x ∧ x < 2 ^ i ∧ ((decide (r * r ≠ N) || decide (x ≠ 0)) = decide (r' * r' ≠ N')) := by
  obtain ⟨P, hP⟩ : ∃ P, P = 2 ^ i := ⟨_, rfl⟩
  have hp : 0 < P := by rw [hP]; exact Nat.two_pow_pos i
  have h2 : 2 ^ (2 * i) = P * P := by rw [hP, ← Nat.pow_add, Nat.two_mul]
  rw [h2] at hN
  rw [← hP]
  have e1 : ∀ y : Nat, y * P * (y * P) = y * y * (P * P) := fun y => by rw [Nat.mul_mul_mul_comm]
  have a1 : r' * P < r + 1 := lt_of_sq (by rw [e1]; exact Nat.lt_of_le_of_lt (by rw [hN]; exact Nat.mul_le_mul_right _ h'.1) h.2)
  have a2 : r < (r' + 1) * P := lt_of_sq (by
    rw [e1]
    refine Nat.lt_of_le_of_lt h.1 ?_
    rw [hN]
    exact Nat.mul_lt_mul_of_pos_right h'.2 (Nat.mul_pos hp hp))
  rw [Nat.add_mul, Nat.one_mul] at a2
  refine ⟨r - r' * P, by omega, by omega, ?_⟩
  rw [Bool.eq_iff_iff]
  simp only [Bool.or_eq_true, decide_eq_true_eq]
  constructor
  · intro u v
    have k : IsRt N (r' * P) := by
      refine ⟨by rw [e1, v, hN]; exact Nat.le_refl _, ?_⟩
      rw [hN, ← v, ← e1]; exact sq_lt (by omega)
    have := rt_uniq h k
    rw [this, e1, v, hN] at u
    omega
  · intro u
    by_cases c : r = r' * P
    · left
      intro v
      apply u
      rw [c, e1, hN] at v
      exact Nat.eq_of_mul_eq_mul_right (Nat.mul_pos hp hp) v
    · right; omega
/-- What holds of the root's bits from j on. -/
def RB (N j R : Nat) : Prop := R % 2 ^ j = 0 ∧ R * R ≤ N ∧ N < (R + 2 ^ j) * (R + 2 ^ j)
theorem rb_yes (N j R : Nat) (h : RB N (j + 1) R) (le : (R + 2 ^ j) * (R + 2 ^ j) ≤ N) : RB N j (R + 2 ^ j) := by
  obtain ⟨h1, h2, h3⟩ := h
  refine ⟨?_, le, ?_⟩
  · have := Nat.mod_mod_of_dvd R (show 2 ^ j ∣ 2 ^ (j + 1) from ⟨2, Nat.pow_succ ..⟩)
    rw [h1, Nat.zero_mod] at this
    rw [Nat.add_mod_right]; exact this.symm
  · rw [Nat.pow_succ] at h3
    rw [show R + 2 ^ j + 2 ^ j = R + 2 ^ j * 2 by omega]; exact h3
theorem rb_no (N j R : Nat) (h : RB N (j + 1) R) (le : ¬ (R + 2 ^ j) * (R + 2 ^ j) ≤ N) : RB N j R := by
  obtain ⟨h1, h2, h3⟩ := h
  refine ⟨?_, h2, by omega⟩
  have := Nat.mod_mod_of_dvd R (show 2 ^ j ∣ 2 ^ (j + 1) from ⟨2, Nat.pow_succ ..⟩)
  rw [h1, Nat.zero_mod] at this
  exact this.symm
theorem rb_end (N R : Nat) (h : RB N 0 R) : IsRt N R := by
  obtain ⟨_, h2, h3⟩ := h
  exact ⟨h2, by rw [Nat.pow_zero] at h3; exact h3⟩
theorem rb_T (m j R : Nat) (hm : m < 18446744073709551616) (hj : j < 64) (h : RB (m * 18446744073709551616) (j + 1) R) : R + 2 ^ (j + 1) ≤ 18446744073709551616 := by
  obtain ⟨h1, h2, _⟩ := h
  have hR : R < 18446744073709551616 := lt_of_sq (Nat.lt_of_le_of_lt h2 (Nat.mul_lt_mul_of_pos_right hm (by decide)))
  have hK : (18446744073709551616 : Nat) = 2 ^ (63 - j) * 2 ^ (j + 1) := by
    rw [← Nat.pow_add, show 63 - j + (j + 1) = 64 by omega]
  have hd := Nat.div_add_mod R (2 ^ (j + 1))
  rw [h1, Nat.add_zero] at hd
  have hq : R / 2 ^ (j + 1) < 2 ^ (63 - j) := by
    rw [Nat.div_lt_iff_lt_mul (Nat.two_pow_pos _), ← hK]; exact hR
  have : (R / 2 ^ (j + 1) + 1) * 2 ^ (j + 1) ≤ 2 ^ (63 - j) * 2 ^ (j + 1) := Nat.mul_le_mul_right _ hq
  rw [← hK, Nat.add_mul, Nat.one_mul, Nat.mul_comm, hd] at this
  exact this
theorem cmp_sq (S m : Nat) : S ≤ m * 18446744073709551616 ↔ (hiP S < (m : Int) ∨ (hiP S = (m : Int) ∧ loP S = 0)) := by
  unfold hiP loP; omega
theorem eq_sq (S m : Nat) : S = m * 18446744073709551616 ↔ (hiP S = (m : Int) ∧ loP S = 0) := by
  unfold hiP loP; omega


set_option maxHeartbeats 4000000 in
theorem rootOf_c (m r : Nat) (hm : m < 18446744073709551616) (hr : IsRt (m * 18446744073709551616) r) (w : World) :
    Calls Tryd.prog 107 #[.int .u64 (m : Int)] w fun e w' => e = .returned (.tuple #[.int .u64 (r : Int), .bool (decide (r * r ≠ m * 18446744073709551616))]) ∧ w = w' := by
  have Hm := Lib.hid hm
  have HT := Lib.hid (fun (j R : Nat) (hj : j < 64) (h : RB (m * 18446744073709551616) (j + 1) R) => rb_T m j R hm hj h)
  have HS := Lib.hid (show RB (m * 18446744073709551616) 64 0 from ⟨Nat.zero_mod _, Nat.zero_le _, by
    rw [Nat.zero_add, show (2 : Nat) ^ 64 = 18446744073709551616 by decide]; exact Nat.mul_lt_mul_of_pos_right hm (by decide)⟩)
  have HC := Lib.hid (fun S => cmp_sq S m)
  have HE := Lib.hid (fun S => eq_sq S m)
  have Hr := Lib.hid hr; clear hr
  have m1 : (m : Int) ≤ 18446744073709551615 := by omega
  clear hm
  obtain ⟨mo, hmo⟩ : ∃ mo : Bool, mo = decide (r * r ≠ m * 18446744073709551616) := ⟨_, rfl⟩
  rw [← hmo]
  generalize hNN : m * 18446744073709551616 = NN at *
  have HNN := Lib.hid hNN; clear hNN
  have Hmo := Lib.hid hmo; clear hmo
  go_enter Tryd.func107, Tryd.ntmps107
  go_wp2
  go_loop [2, 4] (fun a b => ∃ j R bt : Nat, j ≤ 64 ∧ a = .int .u64 (R : Int) ∧ b = .int .u64 (bt : Int) ∧ bt = 2 ^ j / 2 ∧ RB NN j R) (fun _ b => (intOf b).toNat)
  case atStart => exact ⟨64, 0, 9223372036854775808, Nat.le_refl _, rfl, rfl, by decide, HS.out⟩
  case round =>
    obtain ⟨j, R, bt, hj, rfl, rfl, hbt, hR⟩ := hrel
    rcases Nat.eq_zero_or_pos j with c | c
    · subst c
      obtain rfl : bt = 0 := by rw [hbt]
      have hRr : R = r := rt_uniq (rb_end _ _ hR) Hr.out
      subst hRr
      have hR64 : R < 18446744073709551616 := by
        have h1 := (rb_end _ _ hR).1
        have h2 := Hm.out
        rw [← HNN.out] at h1
        exact lt_of_sq (Nat.lt_of_le_of_lt h1 (Nat.mul_lt_mul_of_pos_right h2 (by decide)))
      have HM := Lib.hid (fun w' => Mul64_c R R hR64 hR64 w')
      have r1 : (R : Int) ≤ 18446744073709551615 := by omega
      have he := HE.out (R * R)
      clear hbt hR hR64 hj
      have hmo := Hmo.out
      clear Hmo
      generalize hiP (R * R) = H at *
      generalize loP (R * R) = L at *
      have hcase : (mo = true ∧ (H != (m : Int)) = true) ∨ (mo = true ∧ (H != (m : Int)) = false ∧ (L != 0) = true) ∨ (mo = false ∧ (H != (m : Int)) = false ∧ (L != 0) = false) := by
        by_cases q : R * R = NN
        · obtain ⟨q1, q2⟩ := he.1 q
          exact .inr (.inr ⟨by rw [hmo]; simp [q], by simp [q1], by simp [q2]⟩)
        · by_cases q1 : H = (m : Int)
          · have q2 : ¬ L = 0 := fun q2 => q (he.2 ⟨q1, q2⟩)
            exact .inr (.inl ⟨by rw [hmo]; simp [q], by simp [q1], by simp [q2]⟩)
          · exact .inl ⟨by rw [hmo]; simp [q], by simp [q1]⟩
      clear he hmo
      rcases hcase with ⟨rfl, k1⟩ | ⟨rfl, k1, k2⟩ | ⟨rfl, k1, k2⟩
      all_goals
        go_wp2_with fail
        refine (HM.out _).mono ?_
        rintro e w1 ⟨rfl, rfl⟩
        go_wp2_with fail
        go_ret2
        exact ⟨rfl, rfl⟩
    · obtain ⟨i, rfl⟩ : ∃ i, j = i + 1 := ⟨j - 1, by omega⟩
      have hbt' : bt = 2 ^ i := by rw [hbt, Nat.pow_succ, Nat.mul_div_cancel _ (by decide)]
      have hT := HT.out i R (by omega) hR
      have hy := rb_yes _ _ _ hR
      have hn := rb_no _ _ _ hR
      rw [← hbt'] at hy hn
      rw [Nat.pow_succ, ← hbt'] at hT
      have hb0 : 0 < bt := by rw [hbt']; exact Nat.two_pow_pos i
      have o1 : bits .or .u64 (R : Int) (bt : Int) = (R : Int) + (bt : Int) := or_join_u64 (i + 1) R bt hR.1 (by omega) (by rw [Nat.pow_succ, ← hbt']; omega) (by omega)
      obtain ⟨T, hTe⟩ : ∃ T, T = R + bt := ⟨_, rfl⟩
      have o2 : bits .or .u64 (R : Int) (bt : Int) = (T : Int) := by rw [o1, hTe]; omega
      obtain ⟨b2, hb2⟩ : ∃ b2, b2 = 2 ^ i / 2 := ⟨_, rfl⟩
      have o3 : (bt : Int) / 2 = (b2 : Int) := by rw [hb2, ← hbt']; omega
      have HM := Lib.hid (fun w' => Mul64_c T T (by omega) (by omega) w')
      rw [← hTe] at hy hn
      have hc := HC.out (T * T)
      have g1 : (0 : Int) < (bt : Int) := by omega
      have g2 : (bt : Int) ≤ 18446744073709551615 := by omega
      have g3 : (R : Int) ≤ 18446744073709551615 := by omega
      have g4 : (T : Int) ≤ 18446744073709551615 := by omega
      have hlt : b2 < bt := by rw [hb2, ← hbt']; omega
      have Hlt := Lib.hid hlt; clear hlt
      have Hb2 := Lib.hid hb2; clear hb2
      have Hy := Lib.hid hy; clear hy
      have Hn := Lib.hid hn; clear hn
      clear hbt hbt' hT hR hb0 hTe o1 c
      by_cases le : T * T ≤ NN
      · have hcs := hc.1 le
        have HY := Lib.hid (Hy.out le)
        clear hc Hy Hn
        have Le := Lib.hid le; clear le
        generalize hiP (T * T) = H at *
        generalize loP (T * T) = L at *
        rcases hcs with k1 | ⟨k1, k2⟩
        · have k1' : decide (H < (m : Int)) = true := decide_eq_true k1
          go_wp2_with fail
          refine (HM.out _).mono ?_
          rintro e w1 ⟨rfl, rfl⟩
          go_wp2_with fail
          go_round
          case rel => exact ⟨i, T, b2, by omega, rfl, rfl, Hb2.out, HY.out⟩
          case measure => have := Hlt.out; simp [intOf]; omega
        · have k1' : decide (H < (m : Int)) = false := by simp; omega
          have k3 : (H == (m : Int)) = true := by simp [k1]
          have k4 : (L == 0) = true := by simp [k2]
          clear k1 k2
          go_wp2_with fail
          refine (HM.out _).mono ?_
          rintro e w1 ⟨rfl, rfl⟩
          go_wp2_with fail
          go_round
          case rel => exact ⟨i, T, b2, by omega, rfl, rfl, Hb2.out, HY.out⟩
          case measure => have := Hlt.out; simp [intOf]; omega
      · have hcs : ¬ (hiP (T * T) < (m : Int) ∨ (hiP (T * T) = (m : Int) ∧ loP (T * T) = 0)) := fun q => le (hc.2 q)
        have HY := Lib.hid (Hn.out le)
        clear hc Hy Hn
        have Le := Lib.hid le; clear le
        generalize hiP (T * T) = H at *
        generalize loP (T * T) = L at *
        have k1' : decide (H < (m : Int)) = false := by simp; omega
        by_cases k1 : H = (m : Int)
        · have k3 : (H == (m : Int)) = true := by simp [k1]
          have k4 : (L == 0) = false := by simp; omega
          clear k1 hcs
          go_wp2_with fail
          refine (HM.out _).mono ?_
          rintro e w1 ⟨rfl, rfl⟩
          go_wp2_with fail
          go_round
          case rel => exact ⟨i, R, b2, by omega, rfl, rfl, Hb2.out, HY.out⟩
          case measure => have := Hlt.out; simp [intOf]; omega
        · have k3 : (H == (m : Int)) = false := by simp [k1]
          clear k1 hcs
          go_wp2_with fail
          refine (HM.out _).mono ?_
          rintro e w1 ⟨rfl, rfl⟩
          go_wp2_with fail
          go_round
          case rel => exact ⟨i, R, b2, by omega, rfl, rfl, Hb2.out, HY.out⟩
          case measure => have := Hlt.out; simp [intOf]; omega


/-- The root of a float that is taken apart. -/
def rtUp (X : Nat) (ex : Int) : Nat := if (ex - ((128 - bl X : Nat) : Int)) % 2 = 0 then 128 - bl X else 127 - bl X

set_option maxHeartbeats 4000000 in
theorem sqrt_sp (W D E mode c s m ex : Int) (h : KL W D E) (hs : Sgn s) (r1 r2 : Int)
    (hr : (c = 4 ∧ r1 = jn W 0 (qz D) ∧ r2 = 0) ∨ (c = 0 ∧ r1 = jn W s 0 ∧ r2 = 0) ∨ ((c = 1 ∨ c = 2 ∨ c = 3) ∧ s = 1 ∧ r1 = jn W 0 (qz D) ∧ r2 = 1) ∨ (c = 3 ∧ s = 0 ∧ r1 = jn W 0 (endl D) ∧ r2 = 0)) (w : World) :
    Calls Tryd.prog 71 #[lay W D E, .int .i64 mode, num c s m ex] w fun e w' => e = .returned (.tuple #[.int .i64 r1, .int .i64 r2]) ∧ Below w.heap.size w w' := by
  have Hs := Lib.hid hs; clear hs
  have hh := Lib.hid (show (0 : Int) ≤ 0 ∧ (0 : Int) < Go.Proofs.YtfdenbgmogojeaaDoor.hf W from ⟨by omega, by have := (one_b h).2; omega⟩)
  rcases hr with ⟨rfl, rfl, rfl⟩ | ⟨rfl, rfl, rfl⟩ | ⟨rfl | rfl | rfl, rfl, rfl, rfl⟩ | ⟨rfl, rfl, rfl, rfl⟩
  all_goals
    go_enter Tryd.func71, Tryd.ntmps71
    go_wp2_with (first | (go_at_call 89; refine (quiet_c W D E h _).mono ?_; rintro e w1 ⟨rfl, hb⟩) | (go_at_call 90; refine (infinite_c W D E 0 h (.inl rfl) _).mono ?_; rintro e w1 ⟨rfl, hb⟩) | (go_at_call 80; refine (join_c W D E _ 0 h Hs.out hh.out.1 hh.out.2 _).mono ?_; rintro e w1 ⟨rfl, hb⟩))
    go_ret2
    exact ⟨rfl, bt (by go_grown) hb⟩

set_option maxRecDepth 100000 in
set_option maxHeartbeats 4000000 in
theorem sqrt_fin (W D E mode c ex e2 : Int) (X r : Nat) (h : KL W D E) (hm : Mode mode) (h1 : (c == 4) = false) (h2 : (c == 0) = false) (h3 : (c == 3) = false) (x0 : 0 < X) (x1 : (X : Int) ≤ 18014398509481983) (ex0 : -1100 ≤ ex) (ex1 : ex ≤ 1000)
    (he : ex - (rtUp X ex : Int) = 2 * e2) (hr : IsRt (X * 2 ^ rtUp X ex) r) (w : World) :
    Calls Tryd.prog 71 #[lay W D E, .int .i64 mode, num c 0 X ex] w fun e w' => e = .returned (.tuple #[.int .i64 (roundF W D mode 0 r e2 (decide (r * r ≠ X * 2 ^ rtUp X ex))).1, .int .i64 (roundF W D mode 0 r e2 (decide (r * r ≠ X * 2 ^ rtUp X ex))).2]) ∧ Below w.heap.size w w' := by
  have hx : bl X ≤ 54 := bl_mono_le _ 54 (by omega)
  have hx1 := bl_pos X (by omega)
  obtain ⟨a, ha⟩ : ∃ a : Nat, a = 64 - bl X := ⟨_, rfl⟩
  obtain ⟨b, hb⟩ : ∃ b : Nat, rtUp X ex = 64 + b := ⟨rtUp X ex - 64, by unfold rtUp; split <;> omega⟩
  have hab : (b = a ∧ (ex - (64 + (a : Int))) % 2 = 0) ∨ (b + 1 = a ∧ (ex - (64 + (a : Int))) % 2 ≠ 0) := by
    unfold rtUp at hb
    split at hb <;> omega
  rw [hb] at he hr ⊢
  have p1 : X * 2 ^ b < 18446744073709551616 := by
    have p1 : X * 2 ^ a < 2 ^ bl X * 2 ^ a := Nat.mul_lt_mul_of_pos_right (bl_lt X) (Nat.two_pow_pos _)
    rw [← Nat.pow_add, show bl X + a = 64 by omega] at p1
    have p2 : X * 2 ^ b ≤ X * 2 ^ a := Nat.mul_le_mul_left _ (Nat.pow_le_pow_right (by decide) (by omega))
    omega
  have p2 : 4611686018427387904 ≤ X * 2 ^ b := by
    have p3 : 2 ^ (bl X - 1) * 2 ^ b ≤ X * 2 ^ b := Nat.mul_le_mul_right _ (bl_ge X (by omega))
    rw [← Nat.pow_add] at p3
    have p4 : 2 ^ 62 ≤ 2 ^ (bl X - 1 + b) := Nat.pow_le_pow_right (by decide) (by omega)
    omega
  have e0 : X * 2 ^ (64 + b) = X * 2 ^ b * 18446744073709551616 := by
    rw [Nat.add_comm, Nat.pow_add, ← Nat.mul_assoc, show (2 : Nat) ^ 64 = 18446744073709551616 by decide]
  rw [e0] at hr ⊢
  obtain ⟨M, hM⟩ : ∃ M, M = X * 2 ^ b := ⟨_, rfl⟩
  have hMi : (X : Int) * 2 ^ b = (M : Int) := by rw [hM]; simp
  rw [← hM] at hr p1 p2 ⊢
  have HRt := Lib.hid (fun w' => rootOf_c M r p1 hr w')
  obtain ⟨mo, hmo⟩ : ∃ mo : Bool, mo = decide (r * r ≠ M * 18446744073709551616) := ⟨_, rfl⟩
  rw [← hmo] at HRt ⊢
  have hr64 : r < 18446744073709551616 := lt_of_sq (Nat.lt_of_le_of_lt hr.1 (Nat.mul_lt_mul_of_pos_right p1 (by decide)))
  have hr0 : r ≠ 0 := fun q => by have := hr.2; rw [q] at this; omega
  have e1 : IntKind.u64.wrap ((X : Int) * 2 ^ b) = (M : Int) := by rw [hMi, IntKind.wrap_u64]; omega
  have hb64 := bl_mono_le r 64 (by omega)
  have hh : 11 ≤ D ∧ D ≤ 53 ∧ -1074 ≤ low D := by rcases h with ⟨rfl, rfl, rfl⟩ | ⟨rfl, rfl, rfl⟩ | ⟨rfl, rfl, rfl⟩ <;> decide
  have hnn : nn 0 (r : Int) = r := by unfold nn; omega
  have hR := Lib.hid (round_c W D E mode 0 0 (r : Int) e2 mo h hm (.inl rfl) ⟨by omega, by omega⟩ ⟨by omega, by omega⟩ (by rw [hnn]; exact hr0) (by omega) (by rw [hnn]; omega))
  rw [hnn] at hR
  generalize roundF W D mode 0 r e2 mo = rr at *
  obtain ⟨rr1, rr2⟩ := rr
  simp only at hR
  have l1 : ∀ w', Calls Tryd.prog 106 #[.int .u64 (X : Int)] w' fun e w'' => e = .returned (.int .i64 (a : Int)) ∧ w' = w'' := fun w' => by
    refine (LeadingZeros64_c (X : Int) (by omega) (by omega) w').mono ?_
    rintro e w'' ⟨rfl, rfl⟩
    exact ⟨by rw [Int.toNat_natCast, show (64 : Int) - (bl X : Int) = (a : Int) by omega], rfl⟩
  have L1 := Lib.hid l1; clear l1
  have f1 : -2000 ≤ e2 := by omega
  have f2 : e2 ≤ 2000 := by omega
  have a1 : (a : Int) ≤ 64 := by omega
  have a0 : (0 : Int) ≤ a := by omega
  have b1 : (b : Int) ≤ 64 := by omega
  have b0 : (0 : Int) ≤ b := by omega
  clear hx hx1 p1 p2 hM hMi hr hr64 hr0 hb64 hh hnn hmo e0 hb x0 ha
  have He := Lib.hid he; clear he
  rcases hab with ⟨rfl, hp⟩ | ⟨hab, hp⟩
  · have t1 : (ex - (64 + (b : Int))) % 2 = 0 := hp
    have t2 : (ex - (64 + (b : Int))).tmod 2 = 0 := Int.tmod_eq_zero_of_dvd (Int.dvd_of_emod_eq_zero hp)
    have t3 : (ex - (64 + (b : Int))).tdiv 2 = e2 := by rw [show ex - (64 + (b : Int)) = 2 * e2 by have := He.out; omega, Int.mul_tdiv_cancel_left _ (by decide)]
    clear hp
    go_enter Tryd.func71, Tryd.ntmps71
    go_wp2_with fail
    refine (L1.out _).mono ?_
    rintro e w1 ⟨rfl, rfl⟩
    go_wp2_with fail
    refine (HRt.out _).mono ?_
    rintro e w1 ⟨rfl, rfl⟩
    go_wp2_with fail
    refine (hR.out _).mono ?_
    rintro e w2 ⟨rfl, hb⟩
    have hB : Below w.heap.size w w2 := bt (by go_grown) hb
    clear hb
    go_wp2_with fail
    go_ret2
    exact ⟨rfl, hB⟩
  · have t2 : ((ex - (64 + (a : Int))).tmod 2 != 0) = true := by
      have q : ¬ (ex - (64 + (a : Int))).tmod 2 = 0 := fun q => hp (Int.emod_eq_zero_of_dvd (Int.dvd_of_tmod_eq_zero q))
      simp [q]
    have t3 : (ex - (64 + (a : Int) - 1)).tdiv 2 = e2 := by rw [show ex - (64 + (a : Int) - 1) = 2 * e2 by have := He.out; omega, Int.mul_tdiv_cancel_left _ (by decide)]
    have t4 : 64 + (a : Int) - 1 - 64 = (b : Int) := by omega
    have g1 : (1 : Int) ≤ (a : Int) := by omega
    have Hab := Lib.hid hab; clear hab
    clear hp
    go_enter Tryd.func71, Tryd.ntmps71
    go_wp2_with fail
    refine (L1.out _).mono ?_
    rintro e w1 ⟨rfl, rfl⟩
    go_wp2_with fail
    refine (HRt.out _).mono ?_
    rintro e w1 ⟨rfl, rfl⟩
    go_wp2_with fail
    refine (hR.out _).mono ?_
    rintro e w2 ⟨rfl, hb⟩
    have hB : Below w.heap.size w w2 := bt (by go_grown) hb
    clear hb
    go_wp2_with fail
    go_ret2
    exact ⟨rfl, hB⟩


theorem bl_addr (m n s K : Nat) (h1 : bl m ≤ K) (h2 : bl n ≤ K) (h : s ≤ m + n) : bl s ≤ K + 1 := bl_mono_le s (K + 1) (by
  have a := Nat.lt_of_lt_of_le (bl_lt m) (Nat.pow_le_pow_right (by decide : 1 ≤ 2) h1)
  have b := Nat.lt_of_lt_of_le (bl_lt n) (Nat.pow_le_pow_right (by decide : 1 ≤ 2) h2)
  rw [Nat.pow_succ]; omega)
set_option maxRecDepth 100000 in
set_option maxHeartbeats 4000000 in
theorem root_c (v : Value) (N r : Nat) (hN0 : 0 < N) (hN : bl N ≤ 400) (hr : IsRt N r) (w : World) (h : RN w v (bl N) N) :
    Calls Tryd.prog 73 #[v] w fun e w' => ∃ p c, e = .returned (.tuple #[.slice p (bl r) c, .bool (decide (r * r ≠ N))]) ∧ RN w' (.slice p (bl r) c) (bl r) r ∧ Below w.heap.size w w' := by
  obtain ⟨pn, cn, rfl⟩ := h.slice
  have hN1 := bl_pos N (by omega)
  have CM := Lib.hid (fun (p : Option Addr) (c X : Nat) (hX : bl X ≤ 1000) (w' : World) (hw : Below w.heap.size w w') (h1 : RN w' (.slice p (bl X) c) (bl X) X) => Cmp_c _ _ (bl X) (bl N) X N (by omega) (by omega) (bl_lt X) (bl_lt N) w' h1 (h.keep hw))
  have UP := Lib.hid (fun (i : Nat) (hi : i ≤ 1000) (p : Option Addr) (c : Nat) (w' : World) (h1 : RN w' (.slice p 1 c) 1 1) => Up_c (.slice p 1 c) 1 1 (by decide) (i : Int) i rfl (by omega) (i + 1) (by rw [if_neg (by decide)]) (by decide) w' h1)
  have PL := Lib.hid (fun (i : Nat) (hi : i ≤ 1000) (p1 p2 : Option Addr) (c1 c2 O : Nat) (hO : bl O ≤ 1000) (w' : World) (h1 : RN w' (.slice p1 (bl O) c1) (bl O) O) (h2 : RN w' (.slice p2 (i + 1) c2) (i + 1) (1 * 2 ^ i)) =>
    Plus_c _ _ (bl O) (i + 1) O (1 * 2 ^ i) (by omega) (by omega) (bl_lt O) (by rw [Nat.one_mul, Nat.pow_succ]; have := Nat.two_pow_pos i; omega) w' h1 h2)
  have TM := Lib.hid (fun (p : Option Addr) (c T : Nat) (hT0 : 0 < T) (hT : bl T ≤ 450) (w' : World) (h1 : RN w' (.slice p (bl T) c) (bl T) T) => Times_c (.slice p (bl T) c) (.slice p (bl T) c) T T hT0 hT0 (by omega) (by omega) w' h1 h1)
  have TB := Lib.hid (fun (T : Nat) (hT : bl T ≤ 450) => Nat.le_trans (bl_prod T T (bl T) (bl_lt T)) (show bl T + bl T ≤ 1000 by omega))
  have hL := bl_lt N
  obtain ⟨L, hLe⟩ : ∃ L, L = bl N := ⟨_, rfl⟩
  rw [← hLe] at hL hN hN1 CM ⊢
  have st : RB N ((L + 1) / 2 + 1) 0 := ⟨Nat.zero_mod _, Nat.zero_le _, by
    rw [Nat.zero_add, ← Nat.pow_add]
    exact Nat.lt_of_lt_of_le hL (Nat.pow_le_pow_right (by decide) (by omega))⟩
  have St := Lib.hid st; clear st
  have Hr := Lib.hid hr; clear hr
  have HLe := Lib.hid hLe; clear hLe
  have HN0 := Lib.hid hN0; clear hN0
  have OB := Lib.hid (fun (O : Nat) (h1 : O * O ≤ N) => bl_mono_le O L (Nat.lt_of_le_of_lt (Nat.le_trans (Nat.le_mul_self O) h1) hL))
  clear hL h
  obtain ⟨mo, hmo⟩ : ∃ mo : Bool, mo = decide (r * r ≠ N) := ⟨_, rfl⟩
  rw [← hmo]
  have Hmo := Lib.hid hmo; clear hmo
  go_enter Tryd.func73, Tryd.ntmps73
  go_wp2
  go_loopw [4, 5] (fun o i wr => ∃ (j : Nat) (z : Int) (p : Option Addr) (c O : Nat), j ≤ 300 ∧ i = .int .i64 z ∧ z + 1 = (j : Int) ∧ o = .slice p (bl O) c ∧ RB N j O ∧ RN wr (.slice p (bl O) c) (bl O) O ∧ Below w.heap.size w wr) (fun _ i _ => (intOf i + 1).toNat)
  case atStart => exact ⟨(L + 1) / 2 + 1, _, none, 0, 0, by omega, rfl, by omega, rfl, St.out, RN.of (b := 0) (World.ownsRow_nil _ _ _ _), Below.refl _ _⟩
  case round =>
    obtain ⟨j, z, p, c, O, hj, rfl, hz, rfl, hO, ho, hbe⟩ := hrel
    rcases Nat.eq_zero_or_pos j with c0 | c0
    · subst c0
      obtain rfl : z = -1 := by omega
      have hOr : O = r := rt_uniq (rb_end _ _ hO) Hr.out
      subst hOr
      have h0 : 0 < O := by
        have h1 := Hr.out.2; have h2 := HN0.out
        rcases Nat.eq_zero_or_pos O with q | q
        · rw [q] at h1; omega
        · exact q
      have hb : bl O ≤ 400 := by have := OB.out O hO.2.1; omega
      have H0 := Lib.hid h0; clear h0
      have hcv : (cmpN (O * O) N != 0) = mo := by
        rw [Hmo.out, Bool.eq_iff_iff]
        simp only [bne_iff_ne, decide_eq_true_eq, ne_eq]
        unfold cmpN
        by_cases q : O * O = N
        · rw [if_neg (by omega), if_pos q]; simp [q]
        · rw [if_neg q]
          split <;> simp [q]
      clear hz hO Hmo
      go_wp2_with fail
      refine (TM.out _ _ O H0.out (by omega) _ ho).mono ?_
      rintro e w1 ⟨p1, c1, rfl, h1, hb1⟩
      have ho := ho.keep hb1
      have hbe := bt hbe hb1
      clear hb1
      go_wp2_with fail
      refine (CM.out _ _ (O * O) (TB.out O (by omega)) _ hbe h1).mono ?_
      rintro e w2 ⟨rfl, rfl⟩
      generalize cmpN (O * O) N = cv at *
      go_wp2_with fail
      go_ret2
      exact ⟨p, c, rfl, ho, hbe⟩
    · obtain ⟨i, rfl⟩ : ∃ i, j = i + 1 := ⟨j - 1, by omega⟩
      obtain rfl : z = (i : Int) := by omega
      have hb : bl O ≤ 400 := by have := OB.out O hO.2.1; omega
      have hy := rb_yes _ _ _ hO
      have hn := rb_no _ _ _ hO
      obtain ⟨T, hT⟩ : ∃ T, T = O + 1 * 2 ^ i := ⟨_, rfl⟩
      have hT' : O + 2 ^ i = T := by rw [hT, Nat.one_mul]
      rw [hT'] at hy hn
      have hT0 : 0 < T := by have := Nat.two_pow_pos i; omega
      have hTb : bl T ≤ 450 := by
        have h1 : bl (2 ^ i) ≤ i + 1 := bl_mono_le _ _ (by rw [Nat.pow_succ]; have := Nat.two_pow_pos i; omega)
        have := bl_addr O (2 ^ i) T 400 hb (by omega) (by omega)
        omega
      have HT := Lib.hid hT; clear hT
      have Hy := Lib.hid hy; clear hy
      have Hn := Lib.hid hn; clear hn
      have HT0 := Lib.hid hT0; clear hT0
      clear hz hO hT' c0
      go_wp2_with fail
      refine (Of_c 1 1 (by decide) (by decide) _).mono ?_
      rintro e w1 ⟨v1, rfl, hown, hb1⟩
      have h1 := RN.of hown
      rw [bl_one] at h1
      clear hown
      obtain ⟨p1, c1, rfl⟩ := h1.slice
      have ho := ho.keep hb1
      have hbe := bt hbe hb1
      clear hb1
      go_wp2_with fail
      refine (UP.out i (by omega) _ _ _ h1).mono ?_
      rintro e w2 ⟨p2, c2, rfl, h2, hb1⟩
      have ho := ho.keep hb1
      have hbe := bt hbe hb1
      clear hb1 h1
      go_wp2_with fail
      refine (PL.out i (by omega) _ _ _ _ O (by omega) _ ho h2).mono ?_
      rw [← HT.out]
      rintro e w3 ⟨p3, c3, rfl, h3, hb1⟩
      have ho := ho.keep hb1
      have hbe := bt hbe hb1
      clear hb1 h2
      go_wp2_with fail
      refine (TM.out _ _ T HT0.out hTb _ h3).mono ?_
      rintro e w4 ⟨p4, c4, rfl, h4, hb1⟩
      have ho := ho.keep hb1
      have h3 := h3.keep hb1
      have hbe := bt hbe hb1
      clear hb1
      go_wp2_with fail
      refine (CM.out _ _ (T * T) (TB.out T hTb) _ hbe h4).mono ?_
      by_cases le : T * T ≤ N
      · have hcm : cmpN (T * T) N = -1 ∨ cmpN (T * T) N = 0 := by
          unfold cmpN
          by_cases q : T * T < N
          · rw [if_pos q]; exact .inl rfl
          · rw [if_neg q, if_pos (by omega)]; exact .inr rfl
        have HY := Lib.hid (Hy.out le)
        have Le := Lib.hid le; clear le
        clear Hy Hn h4
        rcases hcm with hcm | hcm
        all_goals
          rw [hcm]
          rintro e w5 ⟨rfl, rfl⟩
          clear hcm
          go_wp2_with fail
          go_roundw
          case rel => exact ⟨i, (i : Int) - 1, p3, c3, T, by omega, rfl, by omega, rfl, HY.out, h3, hbe⟩
          case measure => simp [intOf]
      · have hcm : cmpN (T * T) N = 1 := by unfold cmpN; rw [if_neg (by omega), if_neg (by omega)]
        have HY := Lib.hid (Hn.out le)
        have Le := Lib.hid le; clear le
        rw [hcm]
        rintro e w5 ⟨rfl, rfl⟩
        clear hcm Hy Hn h4 h3
        go_wp2_with fail
        go_roundw
        case rel => exact ⟨i, (i : Int) - 1, p, c, O, by omega, rfl, by omega, rfl, HY.out, ho, hbe⟩
        case measure => simp [intOf]


/-- What the document takes of a float, as numbers. -/
def Tr (k a : Int) (wx : ByteArray) (s : Int) (M : Nat) (ex : Int) : Prop :=
  ∀ w, Calls Tryd.prog 52 #[.int .i64 k, .int .i64 a] w fun e w' => ∃ p c, e = .returned (.agg #[.string wx, .int .i64 s, .slice p (bl M) c, .int .i64 ex]) ∧ RN w' (.slice p (bl M) c) (bl M) M ∧ Below w.heap.size w w'
theorem tr_of (k W D E a : Int) (hk : KK k W D E) (hv : okB W a = true) (wx : ByteArray) (hw : whS (cls D (siz W a)) = wx) : Tr k a wx (rS W D a) (mant D (siz W a)).toNat (rE D (siz W a)) := fun w => by
  subst hw
  refine (taken_c k W D E a hk hv w).mono ?_
  rintro e w' ⟨v, rfl, hown, hb⟩
  have hr := RN.of hown
  obtain ⟨p, c, rfl⟩ := hr.slice
  exact ⟨p, c, rfl, hr, hb⟩
def SR (w w' : World) (u : Value) (LA A : Nat) : Prop := Below w.heap.size w w' ∧ RN w' u LA A
theorem sr_keep {w wp w' : World} {P : Nat} {a b c u : Value} {LA A : Nat} (h : SR w wp u LA A ∧ wp.cell? ⟨P, 1, none⟩ = some a ∧ wp.cell? ⟨P, 2, none⟩ = some b ∧ wp.cell? ⟨P, 3, none⟩ = some c) (hb : Below wp.heap.size wp w') :
    SR w w' u LA A ∧ w'.cell? ⟨P, 1, none⟩ = some a ∧ w'.cell? ⟨P, 2, none⟩ = some b ∧ w'.cell? ⟨P, 3, none⟩ = some c := by
  obtain ⟨⟨h0, r1⟩, h1, h2, h3⟩ := h
  exact ⟨⟨bt h0 hb, r1.keep hb⟩, ck hb h1, ck hb h2, ck hb h3⟩
theorem sr_drew {w wp : World} {P : Nat} {a b c u : Value} {LA A : Nat} (h : SR w wp u LA A ∧ wp.cell? ⟨P, 1, none⟩ = some a ∧ wp.cell? ⟨P, 2, none⟩ = some b ∧ wp.cell? ⟨P, 3, none⟩ = some c) :
    SR w wp.drew u LA A ∧ wp.drew.cell? ⟨P, 1, none⟩ = some a ∧ wp.drew.cell? ⟨P, 2, none⟩ = some b ∧ wp.drew.cell? ⟨P, 3, none⟩ = some c :=
  ⟨⟨h.1.1.drew, h.1.2⟩, h.2⟩
theorem sr_x {w w' : World} {u : Value} {LA A : Nat} {R : Prop} (h : SR w w' u LA A ∧ R) : RN w' u LA A := h.1.2
theorem RN.drewm {w : World} {v : Value} {L M : Nat} (h : RN w v L M) : RN w.drew v L M := h

set_option maxRecDepth 100000 in
set_option maxHeartbeats 4000000 in
theorem rSqrt_n (k W D E mode a : Int) (sx : Int) (ex : Int) (X : Nat) (hk : KK k W D E) (hq : ∀ w, Calls Tryd.prog 51 #[.int .i64 k, .int .i64 mode, .int .i64 a, .int .i64 a] w fun e w' => e = .returned (.bool true) ∧ w = w')
    (hx : Tr k a ⟨#[110, 111, 110, 101]⟩ sx X ex) (w : World) :
    Calls Tryd.prog 25 #[.int .i64 k, .int .i64 mode, .int .i64 a] w fun e w' => e = .returned (.tuple #[.int .i64 (jn W 0 (qz D)), .int .i64 0, .int .i64 0]) ∧ Below w.heap.size w w' := by
  have Hk := Lib.hid hk; clear hk
  have Hq := Lib.hid hq; clear hq
  have Hx := Lib.hid hx; clear hx
  go_enter Tryd.func25, Tryd.ntmps25
  go_wp2_with fail
  refine (Hq.out _).mono ?_
  rintro e w0 ⟨rfl, rfl⟩
  go_wp2_with fail
  refine (Hx.out _).mono ?_
  rintro e w1 ⟨px, cx, rfl, rx, hB⟩
  have hbb : Below w1.heap.size w1 (w1.alloc (.cells (List.toArray [.string ⟨#[110, 111, 110, 101]⟩, .int .i64 sx, .slice px (bl X) cx, .int .i64 ex]) 53)) := by go_grown
  have rx := rx.keep hbb
  have hB := bt hB hbb
  have hX := Has.new w1 [.string ⟨#[110, 111, 110, 101]⟩, .int .i64 sx, .slice px (bl X) cx, .int .i64 ex] 53
  obtain ⟨x0, x1, x2, x3⟩ := hX.c4
  clear hbb hX
  go_wp2_with fail
  refine (rQuiet_c k W D E Hk.out _).mono ?_
  rintro e w3 ⟨rfl, hb⟩
  have hB := bt hB hb
  go_wp2_with fail
  go_ret3
  exact ⟨rfl, hB⟩

set_option maxRecDepth 100000 in
set_option maxHeartbeats 4000000 in
theorem rSqrt_z (k W D E mode a : Int) (sx : Int) (ex : Int) (X : Nat) (hk : KK k W D E) (hq : ∀ w, Calls Tryd.prog 51 #[.int .i64 k, .int .i64 mode, .int .i64 a, .int .i64 a] w fun e w' => e = .returned (.bool true) ∧ w = w')
    (hx : Tr k a ⟨#[122, 101, 114, 111]⟩ sx X ex) (w : World) :
    Calls Tryd.prog 25 #[.int .i64 k, .int .i64 mode, .int .i64 a] w fun e w' => e = .returned (.tuple #[.int .i64 a, .int .i64 0, .int .i64 0]) ∧ Below w.heap.size w w' := by
  have Hk := Lib.hid hk; clear hk
  have Hq := Lib.hid hq; clear hq
  have Hx := Lib.hid hx; clear hx
  go_enter Tryd.func25, Tryd.ntmps25
  go_wp2_with fail
  refine (Hq.out _).mono ?_
  rintro e w0 ⟨rfl, rfl⟩
  go_wp2_with fail
  refine (Hx.out _).mono ?_
  rintro e w1 ⟨px, cx, rfl, rx, hB⟩
  have hbb : Below w1.heap.size w1 (w1.alloc (.cells (List.toArray [.string ⟨#[122, 101, 114, 111]⟩, .int .i64 sx, .slice px (bl X) cx, .int .i64 ex]) 53)) := by go_grown
  have rx := rx.keep hbb
  have hB := bt hB hbb
  have hX := Has.new w1 [.string ⟨#[122, 101, 114, 111]⟩, .int .i64 sx, .slice px (bl X) cx, .int .i64 ex] 53
  obtain ⟨x0, x1, x2, x3⟩ := hX.c4
  clear hbb hX
  go_wp2_with fail
  go_ret3
  exact ⟨rfl, hB⟩

set_option maxRecDepth 100000 in
set_option maxHeartbeats 4000000 in
theorem rSqrt_i1 (k W D E mode a : Int) (ex : Int) (X : Nat) (hk : KK k W D E) (hq : ∀ w, Calls Tryd.prog 51 #[.int .i64 k, .int .i64 mode, .int .i64 a, .int .i64 a] w fun e w' => e = .returned (.bool true) ∧ w = w')
    (hx : Tr k a ⟨#[105, 110, 102, 105, 110, 105, 116, 101]⟩ 1 X ex) (w : World) :
    Calls Tryd.prog 25 #[.int .i64 k, .int .i64 mode, .int .i64 a] w fun e w' => e = .returned (.tuple #[.int .i64 (jn W 0 (qz D)), .int .i64 1, .int .i64 0]) ∧ Below w.heap.size w w' := by
  have Hk := Lib.hid hk; clear hk
  have Hq := Lib.hid hq; clear hq
  have Hx := Lib.hid hx; clear hx
  go_enter Tryd.func25, Tryd.ntmps25
  go_wp2_with fail
  refine (Hq.out _).mono ?_
  rintro e w0 ⟨rfl, rfl⟩
  go_wp2_with fail
  refine (Hx.out _).mono ?_
  rintro e w1 ⟨px, cx, rfl, rx, hB⟩
  have hbb : Below w1.heap.size w1 (w1.alloc (.cells (List.toArray [.string ⟨#[105, 110, 102, 105, 110, 105, 116, 101]⟩, .int .i64 1, .slice px (bl X) cx, .int .i64 ex]) 53)) := by go_grown
  have rx := rx.keep hbb
  have hB := bt hB hbb
  have hX := Has.new w1 [.string ⟨#[105, 110, 102, 105, 110, 105, 116, 101]⟩, .int .i64 1, .slice px (bl X) cx, .int .i64 ex] 53
  obtain ⟨x0, x1, x2, x3⟩ := hX.c4
  clear hbb hX
  go_wp2_with fail
  refine (rQuiet_c k W D E Hk.out _).mono ?_
  rintro e w3 ⟨rfl, hb⟩
  have hB := bt hB hb
  go_wp2_with fail
  go_ret3
  exact ⟨rfl, hB⟩

set_option maxRecDepth 100000 in
set_option maxHeartbeats 4000000 in
theorem rSqrt_f1 (k W D E mode a : Int) (ex : Int) (X : Nat) (hk : KK k W D E) (hq : ∀ w, Calls Tryd.prog 51 #[.int .i64 k, .int .i64 mode, .int .i64 a, .int .i64 a] w fun e w' => e = .returned (.bool true) ∧ w = w')
    (hx : Tr k a ⟨#[102, 105, 110, 105, 116, 101]⟩ 1 X ex) (w : World) :
    Calls Tryd.prog 25 #[.int .i64 k, .int .i64 mode, .int .i64 a] w fun e w' => e = .returned (.tuple #[.int .i64 (jn W 0 (qz D)), .int .i64 1, .int .i64 0]) ∧ Below w.heap.size w w' := by
  have Hk := Lib.hid hk; clear hk
  have Hq := Lib.hid hq; clear hq
  have Hx := Lib.hid hx; clear hx
  go_enter Tryd.func25, Tryd.ntmps25
  go_wp2_with fail
  refine (Hq.out _).mono ?_
  rintro e w0 ⟨rfl, rfl⟩
  go_wp2_with fail
  refine (Hx.out _).mono ?_
  rintro e w1 ⟨px, cx, rfl, rx, hB⟩
  have hbb : Below w1.heap.size w1 (w1.alloc (.cells (List.toArray [.string ⟨#[102, 105, 110, 105, 116, 101]⟩, .int .i64 1, .slice px (bl X) cx, .int .i64 ex]) 53)) := by go_grown
  have rx := rx.keep hbb
  have hB := bt hB hbb
  have hX := Has.new w1 [.string ⟨#[102, 105, 110, 105, 116, 101]⟩, .int .i64 1, .slice px (bl X) cx, .int .i64 ex] 53
  obtain ⟨x0, x1, x2, x3⟩ := hX.c4
  clear hbb hX
  go_wp2_with fail
  refine (rQuiet_c k W D E Hk.out _).mono ?_
  rintro e w3 ⟨rfl, hb⟩
  have hB := bt hB hb
  go_wp2_with fail
  go_ret3
  exact ⟨rfl, hB⟩

set_option maxRecDepth 100000 in
set_option maxHeartbeats 4000000 in
theorem rSqrt_i0 (k W D E mode a : Int) (ex : Int) (X : Nat) (hk : KK k W D E) (hq : ∀ w, Calls Tryd.prog 51 #[.int .i64 k, .int .i64 mode, .int .i64 a, .int .i64 a] w fun e w' => e = .returned (.bool true) ∧ w = w')
    (hx : Tr k a ⟨#[105, 110, 102, 105, 110, 105, 116, 101]⟩ 0 X ex) (w : World) :
    Calls Tryd.prog 25 #[.int .i64 k, .int .i64 mode, .int .i64 a] w fun e w' => e = .returned (.tuple #[.int .i64 a, .int .i64 0, .int .i64 0]) ∧ Below w.heap.size w w' := by
  have Hk := Lib.hid hk; clear hk
  have Hq := Lib.hid hq; clear hq
  have Hx := Lib.hid hx; clear hx
  go_enter Tryd.func25, Tryd.ntmps25
  go_wp2_with fail
  refine (Hq.out _).mono ?_
  rintro e w0 ⟨rfl, rfl⟩
  go_wp2_with fail
  refine (Hx.out _).mono ?_
  rintro e w1 ⟨px, cx, rfl, rx, hB⟩
  have hbb : Below w1.heap.size w1 (w1.alloc (.cells (List.toArray [.string ⟨#[105, 110, 102, 105, 110, 105, 116, 101]⟩, .int .i64 0, .slice px (bl X) cx, .int .i64 ex]) 53)) := by go_grown
  have rx := rx.keep hbb
  have hB := bt hB hbb
  have hX := Has.new w1 [.string ⟨#[105, 110, 102, 105, 110, 105, 116, 101]⟩, .int .i64 0, .slice px (bl X) cx, .int .i64 ex] 53
  obtain ⟨x0, x1, x2, x3⟩ := hX.c4
  clear hbb hX
  go_wp2_with fail
  go_ret3
  exact ⟨rfl, hB⟩

set_option maxRecDepth 100000 in
set_option maxHeartbeats 4000000 in
theorem rSqrt_f0 (k W D E mode a : Int) (ex : Int) (X : Nat) (hk : KK k W D E) (hq : ∀ w, Calls Tryd.prog 51 #[.int .i64 k, .int .i64 mode, .int .i64 a, .int .i64 a] w fun e w' => e = .returned (.bool true) ∧ w = w')
    (hx : Tr k a ⟨#[102, 105, 110, 105, 116, 101]⟩ 0 X ex) (hm : Mode mode) (hX0 : 0 < X) (hX54 : X < 18014398509481984) (hex : -1100 ≤ ex ∧ ex ≤ 1000) (t r : Nat) (e2 : Int) (ht : (2 * D + 4 = (t : Int) ∧ (ex - 2 * D - 4) % 2 = 0) ∨ (2 * D + 5 = (t : Int) ∧ (ex - 2 * D - 4) % 2 ≠ 0)) (he : ex - t = 2 * e2) (hr : IsRt (X * 2 ^ t) r) (hbig : D < (bl r : Int)) (w : World) :
    Calls Tryd.prog 25 #[.int .i64 k, .int .i64 mode, .int .i64 a] w fun e w' => e = .returned (.tuple #[.int .i64 (roundF W D mode 0 r e2 (decide (r * r ≠ X * 2 ^ t))).1, .int .i64 (roundF W D mode 0 r e2 (decide (r * r ≠ X * 2 ^ t))).2, .int .i64 0]) ∧ Below w.heap.size w w' := by
  have hd : 11 ≤ D ∧ D ≤ 53 := by rcases hk.kl with ⟨_, rfl, _⟩ | ⟨_, rfl, _⟩ | ⟨_, rfl, _⟩ <;> decide
  obtain ⟨d0, d1⟩ := hd
  have hbX : bl X ≤ 54 := bl_mono_le X 54 (by omega)
  have hX1 := bl_pos X (by omega)
  obtain ⟨t0, ht0⟩ : ∃ t0 : Nat, 2 * D + 4 = (t0 : Int) := ⟨(2 * D + 4).toNat, by omega⟩
  have hAl : bl (X * 2 ^ t0) = t0 + bl X := bl_up X t0 (by omega)
  have hNl : bl (X * 2 ^ t) = t + bl X := bl_up X t (by omega)
  have hN0 : 0 < X * 2 ^ t := Nat.mul_pos hX0 (Nat.two_pow_pos t)
  have UPX := Lib.hid (fun (p : Option Addr) (c : Nat) (w' : World) (h : RN w' (.slice p (bl X) c) (bl X) X) => Up_c (.slice p (bl X) c) (bl X) X (by omega) (2 * D + 4) t0 ht0 (by omega) (bl (X * 2 ^ t0)) (by rw [if_neg (by omega)]; exact hAl) (by omega) w' h)
  have hcase : (X * 2 ^ t = X * 2 ^ t0 ∧ (ex - 2 * D - 4) % 2 = 0 ∧ ex - 2 * D - 4 = 2 * e2) ∨ (X * 2 ^ t = X * 2 ^ t0 * 2 ^ 1 ∧ (ex - 2 * D - 4) % 2 ≠ 0 ∧ ex - 2 * D - 4 - 1 = 2 * e2) := by
    rcases ht with ⟨h1, h2⟩ | ⟨h1, h2⟩
    · obtain rfl : t = t0 := by omega
      exact .inl ⟨rfl, h2, by omega⟩
    · obtain rfl : t = t0 + 1 := by omega
      exact .inr ⟨by rw [Nat.pow_add, Nat.mul_assoc], h2, by omega⟩
  have hAb : bl (X * 2 ^ t0) ≤ 200 := by omega
  have hA0 : bl (X * 2 ^ t0) ≠ 0 := by omega
  have hNb : bl (X * 2 ^ t) ≤ 300 := by omega
  have hrb : bl r ≤ 300 := Nat.le_trans (bl_mono_le r (bl (X * 2 ^ t)) (Nat.lt_of_le_of_lt (Nat.le_trans (Nat.le_mul_self r) hr.1) (bl_lt _))) hNb
  obtain ⟨mo, hmo⟩ : ∃ mo : Bool, mo = decide (r * r ≠ X * 2 ^ t) := ⟨_, rfl⟩
  have RT := Lib.hid (fun (p : Option Addr) (c : Nat) (w' : World) (h : RN w' (.slice p (bl (X * 2 ^ t)) c) (bl (X * 2 ^ t)) (X * 2 ^ t)) => root_c (.slice p (bl (X * 2 ^ t)) c) (X * 2 ^ t) r hN0 (by omega) hr w' h)
  rw [← hmo] at RT ⊢
  have HR := Lib.hid (fun (p : Option Addr) (c : Nat) (w' : World) (h : RN w' (.slice p (bl r) c) (bl r) r) => Rounded_c k W D E mode 0 r e2 mo (.slice p (bl r) c) hk hm (.inl rfl) (fun q => by rw [q, show bl 0 = 0 from rfl] at hbig; omega) (by omega) (by omega) (by omega) (fun _ => by unfold lastF; omega) w' h)
  have f1 : -2000 ≤ e2 := by omega
  have f2 : e2 ≤ 2000 := by omega
  clear hmo hr hbig ht he hNl hAl hN0 hNb hm hX1 hX54 hX0
  generalize X * 2 ^ t0 = A at *
  generalize X * 2 ^ t = N at *
  generalize roundF W D mode 0 r e2 mo = rr at *
  obtain ⟨rr1, rr2⟩ := rr
  simp only at HR ⊢
  have v1 : IntKind.i64.wrap (2 * D) = 2 * D := IntWalk.i64_in _ (by omega)
  have v2 : IntKind.i64.wrap (2 * D + 4) = 2 * D + 4 := IntWalk.i64_in _ (by omega)
  have v4 : IntKind.i64.wrap (ex - 2 * D) = ex - 2 * D := IntWalk.i64_in _ (by omega)
  have v5 : IntKind.i64.wrap (ex - 2 * D - 4) = ex - 2 * D - 4 := IntWalk.i64_in _ (by omega)
  have Ht0 := Lib.hid ht0; clear ht0
  have Hk := Lib.hid hk; clear hk
  have Hq := Lib.hid hq; clear hq
  have Hx := Lib.hid hx; clear hx
  go_enter Tryd.func25, Tryd.ntmps25
  go_wp2_with fail
  refine (Hq.out _).mono ?_
  rintro e w0 ⟨rfl, rfl⟩
  go_wp2_with fail
  refine (Hx.out _).mono ?_
  rintro e w1 ⟨px, cx, rfl, rx, hB⟩
  have hbb : Below w1.heap.size w1 (w1.alloc (.cells (List.toArray [.string ⟨#[102, 105, 110, 105, 116, 101]⟩, .int .i64 0, .slice px (bl X) cx, .int .i64 ex]) 53)) := by go_grown
  have rx := rx.keep hbb
  have hB := bt hB hbb
  have hX := Has.new w1 [.string ⟨#[102, 105, 110, 105, 116, 101]⟩, .int .i64 0, .slice px (bl X) cx, .int .i64 ex] 53
  obtain ⟨x0, x1, x2, x3⟩ := hX.c4
  clear hbb hX
  go_wp2_with fail
  have hs0 : SR w _ (.slice px (bl X) cx) (bl X) X := ⟨hB, rx⟩
  clear hB rx x0
  go_region_held3 (fun w' => SR w w' (.slice px (bl X) cx) (bl X) X ∧ w'.cell? ⟨w1.heap.size, 1, none⟩ = some (.int .i64 0) ∧ w'.cell? ⟨w1.heap.size, 2, none⟩ = some (.slice px (bl X) cx) ∧ w'.cell? ⟨w1.heap.size, 3, none⟩ = some (.int .i64 ex))
    (first | exact ⟨hs0, x1, x2, x3⟩ | exact sr_drew ⟨hs0, x1, x2, x3⟩ | exact sr_keep (by assumption) hb | assumption)
    (first | (go_at_call 67; refine (rDigits_c k W D E Hk.out _).mono ?_; rintro e' w' ⟨rfl, rfl⟩) | (go_at_call 55; refine (UPX.out _ _ _ (sr_x (by assumption))).mono ?_; rintro e' w' ⟨p1, c1, rfl, h1, hb⟩))
  all_goals
    rename_i hH
    clear hs0 x1 x2 x3
    obtain ⟨⟨hB, _⟩, x1, x2, x3⟩ := hH
    rcases hcase with ⟨hN, q1, q2⟩ | ⟨hN, q1, q2⟩
    · subst hN
      have t2 : (ex - 2 * D - 4).tmod 2 = 0 := Int.tmod_eq_zero_of_dvd (Int.dvd_of_emod_eq_zero q1)
      have t3 : (ex - 2 * D - 4).tdiv 2 = e2 := by rw [q2, Int.mul_tdiv_cancel_left _ (by decide)]
      have Q1 := Lib.hid q1; clear q1
      have Q2 := Lib.hid q2; clear q2
      go_wp2_with fail
      refine (RT.out _ _ _ (by first | exact h1 | exact RN.drewm h1 | assumption)).mono ?_
      rintro e w4 ⟨p4, c4, rfl, h4, hb⟩
      have hB := bt hB hb
      clear hb
      go_wp2_with fail
      refine (HR.out _ _ _ h4).mono ?_
      rintro e w5 ⟨rfl, hb⟩
      have hB := bt hB hb
      go_wp2_with fail
      go_ret3
      exact ⟨rfl, hB⟩
    · have t2 : ((ex - 2 * D - 4).tmod 2 != 0) = true := by
        have q : ¬ (ex - 2 * D - 4).tmod 2 = 0 := fun q => q1 (Int.emod_eq_zero_of_dvd (Int.dvd_of_tmod_eq_zero q))
        simp [q]
      have t3 : (ex - 2 * D - 4 - 1).tdiv 2 = e2 := by rw [q2, Int.mul_tdiv_cancel_left _ (by decide)]
      have v6 : IntKind.i64.wrap (ex - 2 * D - 4 - 1) = ex - 2 * D - 4 - 1 := IntWalk.i64_in _ (by omega)
      have HN := Lib.hid hN; clear hN
      have Q1 := Lib.hid q1; clear q1
      have Q2 := Lib.hid q2; clear q2
      go_wp2_with fail
      refine (Up_c (.slice p1 (bl A) c1) (bl A) A (by omega) 1 1 rfl (by decide) (bl N) (by rw [if_neg hA0, HN.out]; exact bl_up A 1 (fun u => hA0 (by rw [u]; rfl))) (fun u => absurd u hA0) _ (by first | exact h1 | exact RN.drewm h1 | assumption)).mono ?_
      rw [← HN.out]
      rintro e w3 ⟨p3, c3, rfl, h3, hb⟩
      have hB := bt hB hb
      clear hb
      go_wp2_with fail
      refine (RT.out _ _ _ h3).mono ?_
      rintro e w4 ⟨p4, c4, rfl, h4, hb⟩
      have hB := bt hB hb
      clear hb
      go_wp2_with fail
      refine (HR.out _ _ _ h4).mono ?_
      rintro e w5 ⟨rfl, hb⟩
      have hB := bt hB hb
      go_wp2_with fail
      go_ret3
      exact ⟨rfl, hB⟩


theorem lay_keep {w wp w' : World} {P : Nat} {a b c : Value} (h : Below w.heap.size w wp ∧ wp.cell? ⟨P, 0, none⟩ = some a ∧ wp.cell? ⟨P, 1, none⟩ = some b ∧ wp.cell? ⟨P, 2, none⟩ = some c) (hb : Below wp.heap.size wp w') :
    Below w.heap.size w w' ∧ w'.cell? ⟨P, 0, none⟩ = some a ∧ w'.cell? ⟨P, 1, none⟩ = some b ∧ w'.cell? ⟨P, 2, none⟩ = some c :=
  ⟨bt h.1 hb, ck hb h.2.1, ck hb h.2.2.1, ck hb h.2.2.2⟩
theorem lay_drew {w wp : World} {P : Nat} {a b c : Value} (h : Below w.heap.size w wp ∧ wp.cell? ⟨P, 0, none⟩ = some a ∧ wp.cell? ⟨P, 1, none⟩ = some b ∧ wp.cell? ⟨P, 2, none⟩ = some c) :
    Below w.heap.size w wp.drew ∧ wp.drew.cell? ⟨P, 0, none⟩ = some a ∧ wp.drew.cell? ⟨P, 1, none⟩ = some b ∧ wp.drew.cell? ⟨P, 2, none⟩ = some c :=
  ⟨h.1.drew, h.2⟩

set_option maxRecDepth 100000 in
set_option maxHeartbeats 4000000 in
theorem Sqrt_c (k W D E mode a r1 r2 : Int) (hk : KK k W D E) (hm : Mode mode) (ha : okB W a = true)
    (hO : ∀ w, Calls Tryd.prog 71 #[lay W D E, .int .i64 mode, num (cls D (siz W a)) (sgn W a) (mant D (siz W a)) (expo D (siz W a))] w fun e w' => e = .returned (.tuple #[.int .i64 r1, .int .i64 r2]) ∧ Below w.heap.size w w') (w : World) :
    Calls Tryd.prog 24 #[.int .i64 k, .int .i64 mode, .int .i64 a] w fun e w' => e = .returned (.tuple #[.int .i64 r1, .int .i64 r2, .int .i64 0]) ∧ Below w.heap.size w w' := by
  have h := hk.kl
  have Hk := Lib.hid hk; clear hk
  have HO := Lib.hid hO; clear hO
  go_enter Tryd.func24, Tryd.ntmps24
  go_wp2_with fail
  refine (layoutOf_c k W D E Hk.out _).mono ?_
  rintro e wa ⟨rfl, hb⟩
  have hB := hb.alloc hb.size (.cells #[.int .i64 W, .int .i64 D, .int .i64 E] 48)
  have hL := Has.new wa [.int .i64 W, .int .i64 D, .int .i64 E] 48
  clear hb
  go_wp2_with fail
  refine (isMode_c mode hm _).mono ?_
  rintro e w1 ⟨rfl, rfl⟩
  go_wp2_with fail
  refine (holds_c W D E a h _).mono ?_
  rintro e w1 ⟨rfl, hb⟩
  have hB := bt hB hb
  have hL := hL.keep hb
  clear hb
  obtain ⟨l0, l1, l2⟩ := hL.c3
  go_wp2_with fail
  go_region_held3 (fun w' => Below w.heap.size w w' ∧ w'.cell? ⟨wa.heap.size, 0, none⟩ = some (.int .i64 W) ∧ w'.cell? ⟨wa.heap.size, 1, none⟩ = some (.int .i64 D) ∧ w'.cell? ⟨wa.heap.size, 2, none⟩ = some (.int .i64 E))
    (first | exact ⟨hB, l0, l1, l2⟩ | exact ⟨hB.drew, l0, l1, l2⟩ | exact lay_keep (by assumption) hb | exact lay_drew (by assumption) | assumption)
    (first | (go_at_call 72; refine (open_c W D E _ h ha _).mono ?_; rintro e w' ⟨rfl, hb⟩) | (go_at_call 71; refine (HO.out _).mono ?_; rintro e w' ⟨rfl, hb⟩))
  all_goals
    rename_i hH
    have hB := hH.1
    clear hH
    go_wp2_with fail
    go_ret3
    exact ⟨rfl, hB⟩

/-- What roots do not take. -/
def BadOne (k mode a : Int) : Prop := NoK k ∨ ∃ W D E, KK k W D E ∧ (¬ Mode mode ∨ (Mode mode ∧ okB W a = false))

set_option maxHeartbeats 2000000 in
theorem Sqrt_bad (k mode a : Int) (hbad : BadOne k mode a) (w : World) :
    Calls Tryd.prog 24 #[.int .i64 k, .int .i64 mode, .int .i64 a] w fun e w' => e = .returned (.tuple #[.int .i64 0, .int .i64 0, .int .i64 2]) ∧ Below w.heap.size w w' := by
  rcases hbad with ⟨h2, h4, h8⟩ | ⟨W, D, E, hk, hbad⟩
  · go_enter Tryd.func24, Tryd.ntmps24
    go_wp2_with fail
    refine (layoutOf_no k h2 h4 h8 _).mono ?_
    rintro e w1 ⟨rfl, hb⟩
    have hB := hb.alloc hb.size (.cells #[.int .i64 0, .int .i64 0, .int .i64 0] 48)
    go_wp2
    go_ret3
    exact ⟨rfl, hB⟩
  · have h := hk.kl
    have Hk := Lib.hid hk; clear hk
    rcases hbad with hm | ⟨hm, ha⟩
    · have Hm := Lib.hid hm; clear hm
      go_enter Tryd.func24, Tryd.ntmps24
      go_wp2_with fail
      refine (layoutOf_c k W D E Hk.out _).mono ?_
      rintro e wa ⟨rfl, hb⟩
      have hB := hb.alloc hb.size (.cells #[.int .i64 W, .int .i64 D, .int .i64 E] 48)
      have hL := Has.new wa [.int .i64 W, .int .i64 D, .int .i64 E] 48
      go_wp2_with fail
      refine (isMode_no mode Hm.out _).mono ?_
      rintro e w1 ⟨rfl, rfl⟩
      go_wp2
      go_ret3
      exact ⟨rfl, hB⟩
    · have Hm := Lib.hid hm; clear hm
      go_enter Tryd.func24, Tryd.ntmps24
      go_wp2_with fail
      refine (layoutOf_c k W D E Hk.out _).mono ?_
      rintro e wa ⟨rfl, hb⟩
      have hB := hb.alloc hb.size (.cells #[.int .i64 W, .int .i64 D, .int .i64 E] 48)
      have hL := Has.new wa [.int .i64 W, .int .i64 D, .int .i64 E] 48
      go_wp2_with fail
      refine (isMode_c mode Hm.out _).mono ?_
      rintro e w1 ⟨rfl, rfl⟩
      go_wp2_with fail
      refine (holds_c W D E a h _).mono ?_
      rintro e w1 ⟨rfl, hb⟩
      have hB := bt hB hb
      go_wp2
      go_ret3
      exact ⟨rfl, hB⟩

theorem asked_one (k mode a : Int) (hbad : BadOne k mode a) (w : World) :
    Calls Tryd.prog 51 #[.int .i64 k, .int .i64 mode, .int .i64 a, .int .i64 a] w fun e w' => e = .returned (.bool false) ∧ w = w' := by
  by_cases hm : Mode mode
  · rcases hbad with hk | ⟨W, D, E, hk, hbad⟩
    · exact rasked_nok k mode a a hm hk w
    · rcases hbad with hm' | ⟨_, ha⟩
      · exact absurd hm hm'
      · have q := rasked_c k W D E mode a a hk hm w
        rw [ha, Bool.false_and] at q; exact q
  · exact rasked_nom k mode a a hm w

set_option maxHeartbeats 2000000 in
theorem rSqrt_bad (k mode a : Int) (hbad : BadOne k mode a) (w : World) :
    Calls Tryd.prog 25 #[.int .i64 k, .int .i64 mode, .int .i64 a] w fun e w' => e = .returned (.tuple #[.int .i64 0, .int .i64 0, .int .i64 2]) ∧ Below w.heap.size w w' := by
  have H := Lib.hid (fun w' => asked_one k mode a hbad w'); clear hbad
  go_enter Tryd.func25, Tryd.ntmps25
  go_wp2_with fail
  refine (H.out _).mono ?_
  rintro e w0 ⟨rfl, rfl⟩
  go_wp2
  go_ret3
  exact ⟨rfl, Below.refl _ _⟩

theorem rt_big (N r m : Nat) (h : IsRt N r) (hN : 2 ^ (2 * m) ≤ N) : m < bl r := by
  have h1 : 2 ^ m ≤ r := by
    rcases Nat.lt_or_ge r (2 ^ m) with c | c
    · exfalso
      have h2 := sq_le (show r + 1 ≤ 2 ^ m by omega)
      rw [← Nat.pow_add, ← Nat.two_mul] at h2
      have := h.2; omega
    · exact c
  have h2 := bl_lt r
  rcases Nat.lt_or_ge m (bl r) with c | c
  · exact c
  · have := Nat.pow_le_pow_right (by decide : 1 ≤ 2) c; omega
theorem rt_same (W D mode : Int) (h0 : 0 ≤ D) (X u t rc rd : Nat) (e f : Int) (hc : IsRt (X * 2 ^ u) rc) (hd : IsRt (X * 2 ^ t) rd) (hb : D < (bl rc : Int)) (hb' : D < (bl rd : Int)) (he : (u : Int) + 2 * e = (t : Int) + 2 * f) :
    roundF W D mode 0 rc e (decide (rc * rc ≠ X * 2 ^ u)) = roundF W D mode 0 rd f (decide (rd * rd ≠ X * 2 ^ t)) := by
  have nz : ∀ r : Nat, D < (bl r : Int) → 0 ≤ D → r ≠ 0 := fun r h h0 q => by rw [q, show bl 0 = 0 from rfl] at h; omega
  rcases Nat.le_total u t with q | q
  · obtain ⟨i, hi⟩ : ∃ i, t = u + 2 * i := ⟨(e - f).toNat, by omega⟩
    obtain ⟨x, h1, h2, h3⟩ := rt_scale (X * 2 ^ u) rc (X * 2 ^ t) rd i (by rw [hi, Nat.pow_add, Nat.mul_assoc]) hc hd
    have h4 := round_join W D mode 0 rc x i f (decide (rd * rd ≠ X * 2 ^ t)) (nz _ hb h0) h2 (by unfold lastF; omega)
    rw [← h1, h3, show f + (i : Int) = e by omega] at h4
    exact h4.symm
  · obtain ⟨i, hi⟩ : ∃ i, u = t + 2 * i := ⟨(f - e).toNat, by omega⟩
    obtain ⟨x, h1, h2, h3⟩ := rt_scale (X * 2 ^ t) rd (X * 2 ^ u) rc i (by rw [hi, Nat.pow_add, Nat.mul_assoc]) hd hc
    have h4 := round_join W D mode 0 rd x i e (decide (rc * rc ≠ X * 2 ^ u)) (nz _ hb' h0) h2 (by unfold lastF; omega)
    rw [← h1, h3, show e + (i : Int) = f by omega] at h4
    exact h4

set_option maxRecDepth 100000 in
/-- Both sides give the same root. -/
theorem roots_same (k W D E mode a : Int) (hk : KK k W D E) (hm : Mode mode) (ha : okB W a = true) (hi : I64 a) : ∃ r1 r2 : Int,
    (∀ w, Calls Tryd.prog 24 #[.int .i64 k, .int .i64 mode, .int .i64 a] w fun e w' => e = .returned (.tuple #[.int .i64 r1, .int .i64 r2, .int .i64 0]) ∧ Below w.heap.size w w') ∧
    (∀ w, Calls Tryd.prog 25 #[.int .i64 k, .int .i64 mode, .int .i64 a] w fun e w' => e = .returned (.tuple #[.int .i64 r1, .int .i64 r2, .int .i64 0]) ∧ Below w.heap.size w w') := by
  have h := hk.kl
  have na := cls_nn D (siz W a)
  have hs := sgn_s W a
  have he := jn_eta W D E a h ha hi
  have hq : ∀ w, Calls Tryd.prog 51 #[.int .i64 k, .int .i64 mode, .int .i64 a, .int .i64 a] w fun e w' => e = .returned (.bool true) ∧ w = w' := fun w' => by
    have q := rasked_c k W D E mode a a hk hm w'
    rw [ha] at q; exact q
  have tz : ∀ c, c = 0 → whS c = ⟨#[122, 101, 114, 111]⟩ := fun c q => by rw [q]; rfl
  have tf : ∀ c, c = 1 ∨ c = 2 → whS c = ⟨#[102, 105, 110, 105, 116, 101]⟩ := fun c q => by rcases q with q | q <;> (rw [q]; rfl)
  have ti : ∀ c, c = 3 → whS c = ⟨#[105, 110, 102, 105, 110, 105, 116, 101]⟩ := fun c q => by rw [q]; rfl
  have tn : ∀ c, c = 4 → whS c = ⟨#[110, 111, 110, 101]⟩ := fun c q => by rw [q]; rfl
  have a5 : cls D (siz W a) = 4 ∨ cls D (siz W a) = 0 ∨ (cls D (siz W a) = 1 ∨ cls D (siz W a) = 2) ∨ cls D (siz W a) = 3 := by omega
  rcases a5 with ca | ca | ca | ca
  · exact ⟨_, _, fun w => Sqrt_c k W D E mode a _ _ hk hm ha (fun w' => sqrt_sp W D E mode _ _ _ _ h hs _ _ (.inl ⟨ca, rfl, rfl⟩) w') w, fun w => rSqrt_n k W D E mode a _ _ _ hk hq (tr_of k W D E a hk ha _ (tn _ ca)) w⟩
  · have hz : siz W a = 0 := by
      unfold cls at ca; repeat' split at ca
      all_goals omega
    rw [hz] at he
    refine ⟨a, 0, fun w => Sqrt_c k W D E mode a _ _ hk hm ha (fun w' => sqrt_sp W D E mode _ _ _ _ h hs _ _ (.inr (.inl ⟨ca, he.symm, rfl⟩)) w') w, fun w => rSqrt_z k W D E mode a _ _ _ hk hq (tr_of k W D E a hk ha _ (tz _ ca)) w⟩
  · have rs : rS W D a = sgn W a := by unfold rS; rw [if_neg (by omega)]
    have re : rE D (siz W a) = expo D (siz W a) := by unfold rE; rw [if_pos ca]
    have tx := tr_of k W D E a hk ha _ (tf _ ca)
    rw [rs, re] at tx
    rcases hs with s0 | s1
    · rw [s0] at tx
      obtain ⟨m1, p1, e1, f1, t1, u1, v1⟩ := fin_nums W D E a h ca
      obtain ⟨X, hX⟩ : ∃ X, X = (mant D (siz W a)).toNat := ⟨_, rfl⟩
      rw [← hX] at tx t1 u1 v1
      obtain ⟨ex, hex⟩ : ∃ ex, ex = expo D (siz W a) := ⟨_, rfl⟩
      rw [← hex] at tx e1 f1
      have hd : 11 ≤ D ∧ D ≤ 53 := by rcases h with ⟨_, rfl, _⟩ | ⟨_, rfl, _⟩ | ⟨_, rfl, _⟩ <;> decide
      have hx54 : bl X ≤ 54 := bl_mono_le X 54 (by omega)
      have hx0 := bl_pos X (by omega)
      obtain ⟨ec, hec⟩ : ∃ ec, ex - (rtUp X ex : Int) = 2 * ec := ⟨(ex - (rtUp X ex : Int)) / 2, by unfold rtUp; split <;> omega⟩
      obtain ⟨rc, hrc⟩ := rt_ex (X * 2 ^ rtUp X ex)
      have bc : D < (bl rc : Int) := by
        have hup : 126 ≤ bl X - 1 + rtUp X ex := by unfold rtUp; split <;> omega
        have h1 : 2 ^ (bl X - 1) * 2 ^ rtUp X ex ≤ X * 2 ^ rtUp X ex := Nat.mul_le_mul_right _ (bl_ge X (by omega))
        rw [← Nat.pow_add] at h1
        have h2 : 2 ^ (2 * 62) ≤ 2 ^ (bl X - 1 + rtUp X ex) := Nat.pow_le_pow_right (by decide) (by omega)
        have := rt_big _ _ 62 hrc (Nat.le_trans h2 h1)
        omega
      obtain ⟨t, ht⟩ : ∃ t : Nat, (2 * D + 4 = (t : Int) ∧ (ex - 2 * D - 4) % 2 = 0) ∨ (2 * D + 5 = (t : Int) ∧ (ex - 2 * D - 4) % 2 ≠ 0) := by
        by_cases q : (ex - 2 * D - 4) % 2 = 0
        · exact ⟨(2 * D + 4).toNat, .inl ⟨by omega, q⟩⟩
        · exact ⟨(2 * D + 5).toNat, .inr ⟨by omega, q⟩⟩
      obtain ⟨ed, hed⟩ : ∃ ed, ex - (t : Int) = 2 * ed := ⟨(ex - (t : Int)) / 2, by omega⟩
      obtain ⟨rd, hrd⟩ := rt_ex (X * 2 ^ t)
      have bd' : D < (bl rd : Int) := by
        have h1 : 2 ^ (2 * (D.toNat + 2)) ≤ X * 2 ^ t := Nat.le_trans (Nat.pow_le_pow_right (by decide) (by omega)) (Nat.le_mul_of_pos_left _ u1)
        have := rt_big _ _ _ hrd h1
        omega
      have hsame := rt_same W D mode (by omega) X (rtUp X ex) t rc rd ec ed hrc hrd bc bd' (by omega)
      refine ⟨(roundF W D mode 0 rd ed (decide (rd * rd ≠ X * 2 ^ t))).1, (roundF W D mode 0 rd ed (decide (rd * rd ≠ X * 2 ^ t))).2, fun w => Sqrt_c k W D E mode a _ _ hk hm ha (fun w' => ?_) w, fun w => rSqrt_f0 k W D E mode a ex X hk hq tx hm u1 (by omega) ⟨e1, f1⟩ t rd ed ht hed hrd bd' w⟩
      rw [s0, ← t1, ← hsame, ← hex]
      have n4 : (cls D (siz W a) == 4) = false := by simp; omega
      have n0 : (cls D (siz W a) == 0) = false := by simp; omega
      have n3 : (cls D (siz W a) == 3) = false := by simp; omega
      have q := sqrt_fin W D E mode (cls D (siz W a)) ex ec X rc h hm n4 n0 n3 u1 v1 e1 f1 hec hrc w'
      exact q
    · rw [s1] at tx
      exact ⟨_, _, fun w => Sqrt_c k W D E mode a _ _ hk hm ha (fun w' => sqrt_sp W D E mode _ _ _ _ h (sgn_s W a) _ _ (.inr (.inr (.inl ⟨by omega, s1, rfl, rfl⟩))) w') w, fun w => rSqrt_f1 k W D E mode a _ _ hk hq tx w⟩
  · have rs : rS W D a = sgn W a := by unfold rS; rw [if_neg (by omega)]
    have tx := tr_of k W D E a hk ha _ (ti _ ca)
    rw [rs] at tx
    rcases hs with s0 | s1
    · have hz : siz W a = endl D := by
        unfold cls at ca; repeat' split at ca
        all_goals omega
      rw [hz, s0] at he
      rw [s0] at tx
      exact ⟨a, 0, fun w => Sqrt_c k W D E mode a _ _ hk hm ha (fun w' => sqrt_sp W D E mode _ _ _ _ h (sgn_s W a) _ _ (.inr (.inr (.inr ⟨ca, s0, he.symm, rfl⟩))) w') w, fun w => rSqrt_i0 k W D E mode a _ _ hk hq tx w⟩
    · rw [s1] at tx
      exact ⟨_, _, fun w => Sqrt_c k W D E mode a _ _ hk hm ha (fun w' => sqrt_sp W D E mode _ _ _ _ h (sgn_s W a) _ _ (.inr (.inr (.inl ⟨by omega, s1, rfl, rfl⟩))) w') w, fun w => rSqrt_i1 k W D E mode a _ _ hk hq tx w⟩

set_option maxHeartbeats 1000000 in
theorem roots_law (k mode a x n f : Int)
    (hc : ∀ w, Calls Tryd.prog 24 #[.int .i64 k, .int .i64 mode, .int .i64 a] w fun e' w' => e' = .returned (.tuple #[.int .i64 x, .int .i64 n, .int .i64 f]) ∧ Below w.heap.size w w')
    (hr : ∀ w, Calls Tryd.prog 25 #[.int .i64 k, .int .i64 mode, .int .i64 a] w fun e' w' => e' = .returned (.tuple #[.int .i64 x, .int .i64 n, .int .i64 f]) ∧ Below w.heap.size w w')
    (w : World) (hcn : CN w) :
    Calls Tryd.prog 5 #[.int .i64 k, .int .i64 mode, .int .i64 a] w fun e w' => e = .returned (.bool true) ∧ Below w.heap.size w w' := by
  have Hc := Lib.hid hc; clear hc
  have Hr := Lib.hid hr; clear hr
  have Hn := Lib.hid hcn; clear hcn
  have t1 : (x == x) = true := by simp
  have t2 : (n == n) = true := by simp
  have t3 : (f == f) = true := by simp
  go_enter Tryd.func5, Tryd.ntmps5
  go_wp2_with fail
  refine (Hc.out _).mono ?_
  rintro e w1 ⟨rfl, hB⟩
  go_wp2_with fail
  refine (Hr.out _).mono ?_
  rintro e w2 ⟨rfl, hb⟩
  have hB := bt hB hb
  go_wp2_with fail
  refine (Awake_c _ (Hn.out.keep hB)).mono ?_
  rintro e w5 ⟨rfl, hb⟩
  have hB := bt hB hb
  go_wp2
  go_ret
  exact ⟨rfl, hB⟩

end Go.Proofs.YtfdenbgmogojeaaDoor
namespace Go.Proofs.YtfdenbgmogojeaaDoor
open Go Go.ChangeShapes Go.WideShapes Go.ChangeAt Go.WideMaps Go.WideElems Go.RowKit

theorem floatRoots_walk (k mode a : Int) (_ : I64 k) (_ : I64 mode) (hi : I64 a) (w : World) (hcn : CN w) :
    Calls Tryd.prog 5 #[.int .i64 k, .int .i64 mode, .int .i64 a] w fun e w' => e = .returned (.bool true) ∧ Below w.heap.size w w' := by
  have hk : NoK k ∨ (∃ W D E, KK k W D E) := by
    by_cases c2 : k = 2
    · exact .inr ⟨16, 11, 5, .inl ⟨c2, rfl, rfl, rfl⟩⟩
    by_cases c4 : k = 4
    · exact .inr ⟨32, 24, 8, .inr (.inl ⟨c4, rfl, rfl, rfl⟩)⟩
    by_cases c8 : k = 8
    · exact .inr ⟨64, 53, 11, .inr (.inr ⟨c8, rfl, rfl, rfl⟩)⟩
    · exact .inl ⟨by simp [c2], by simp [c4], by simp [c8]⟩
  have bad : BadOne k mode a → Calls Tryd.prog 5 #[.int .i64 k, .int .i64 mode, .int .i64 a] w fun e w' => e = .returned (.bool true) ∧ Below w.heap.size w w' := fun hb =>
    roots_law k mode a 0 0 2 (fun w' => Sqrt_bad k mode a hb w') (fun w' => rSqrt_bad k mode a hb w') w hcn
  rcases hk with hk | ⟨W, D, E, hk⟩
  · exact bad (.inl hk)
  · by_cases hm : Mode mode
    · cases ha : okB W a
      · exact bad (.inr ⟨W, D, E, hk, .inr ⟨hm, ha⟩⟩)
      · obtain ⟨r1, r2, h1, h2⟩ := roots_same k W D E mode a hk hm ha hi
        exact roots_law k mode a r1 r2 0 h1 h2 w hcn
    · exact bad (.inr ⟨W, D, E, hk, .inl hm⟩)

set_option maxRecDepth 100000 in
theorem floatRoots_lifted (os : Os) (started : os.Started) (H : Type) (enc : TypeId × Value → H) :
    ReturnsInHanded {} Tryd.checked os 5 .any (fun w args => (Rows.floatRootsSpec.pre enc Tryd.prog Tryd.f5 [] false w args ∧ laidMetH Tryd.prog laidL w) ∧ sizedMet enc Tryd.prog Tryd.f5 (OpenSpec.ofChange Rows.floatRootsSpec) false w args)
      (Rows.floatRootsSpec.post enc Tryd.prog Tryd.f5 false true false false) := by
  refine returnsInHanded_of_change_and (C := Tryd.checked) (X := fun w _ => laidMetH Tryd.prog laidL w) (fun _ _ _ hh h => h.of_heap hh) own started (by kernel_rfl) Tryd.func5
    (ChangeSpec.witness_shaped (enc := enc) (C := Tryd.checked) (os := os) (X := fun w _ => laidMetH Tryd.prog laidL w) false (World.doorLaid Tryd.prog 400 os) #[.int .i64 0, .int .i64 0, .int .i64 0] 8 rfl (World.shaped_of_RefB (by kernel_rfl) (by kernel_rfl)) (by kernel_rfl) (by kernel_rfl) (by kernel_rfl) (door_met os _)) ?_
  intro W base args ds gs before hval0 hW _ _ hL _
  have hval : ∀ (j : Nat) t v, Tryd.f5.params[j]? = some t → args[j]? = some v → Value.okWide Tryd.prog W .any base t v := hval0
  have hW' := hW
  obtain ⟨p, q, hA0, hV, rfl, hfz, hnd⟩ := hW
  have hA : DataW.TrodAll enc Tryd.prog W 0 (fun _ => true) true Tryd.f5.params.toList args.toList ds p := hA0
  rw [Tryd.params5] at hA hval
  obtain ⟨v0, vs0, d0, ds0, p0, q0, hargs, rfl, rfl, h0, r0⟩ := trodAll_cons hA
  obtain ⟨v1, vs1, d1, ds1, p1, q1, rfl, rfl, rfl, h1, r1⟩ := trodAll_cons r0
  obtain ⟨v2, vs2, d2, ds2, p2, q2, rfl, rfl, rfl, h2, r2⟩ := trodAll_cons r1
  obtain ⟨rfl, rfl, rfl⟩ := trodAll_nil r2
  obtain rfl : args = #[v0, v1, v2] := by cases args; simp_all
  obtain ⟨rfl, rfl⟩ := trodVars_none hV
  obtain ⟨a0, rfl, rfl, rfl, w0⟩ := open_int Tryd.underlying3 (hval 0 3 v0 rfl rfl) h0
  obtain ⟨a1, rfl, rfl, rfl, w1⟩ := open_int Tryd.underlying3 (hval 1 3 v1 rfl rfl) h1
  obtain ⟨a2, rfl, rfl, rfl, w2⟩ := open_int Tryd.underlying3 (hval 2 3 v2 rfl rfl) h2
  have hcn := of_laid hL
  clear hA0 hval0
  simp only [List.append_nil] at hW'
  refine (floatRoots_walk a0 a1 a2 (by have := bounds_i64 w0; unfold I64; omega) (by have := bounds_i64 w1; unfold I64; omega) (by have := bounds_i64 w2; unfold I64; omega) W hcn).mono fun e W' ⟨he, hb⟩ => ?_
  subst he
  exact ⟨_, rfl, post_plain hW' (fun _ _ _ => (trodAll_cons_mk (shut_bool Tryd.underlying4 _) trodAll_mk0)) (fun _ => (trodAll_cons_mk (shut_int Tryd.underlying3 w0) (trodAll_cons_mk (shut_int Tryd.underlying3 w1) (trodAll_cons_mk (shut_int Tryd.underlying3 w2) trodAll_mk0)))) (fun _ => rfl) hb (ok_one (by kernel_rfl) rfl (okWide_bool_mk Tryd.underlying4 _))⟩

theorem floatRoots_holds : Rows.FloatRootsSaid :=
  OpenClaim.holds_of_wide 5 Tryd.f5 rfl rfl rfl rfl rfl rfl rfl ⟨rfl, rfl, rfl, rfl, rfl⟩ rfl rfl rfl rfl rfl (by kernel_rfl) Tryd.func5 (by kernel_rfl)
    (of_decide_eq_true (by kernel_rfl)) (by unfold Func.isWrapper; first | (rw [if_pos (by decide +kernel)]; kernel_rfl) | (rw [if_neg (by decide +kernel)]; exact ⟨rfl, rfl⟩))
    (fun os started H enc _ => floatRoots_lifted os started H enc)

theorem floatRoots_card : Rows.FloatRootsCardSaid :=
  Claim7.holds_tied_plain_at .later [] [.data] true Rows.floatRootsCard.stood.harness false
    floatRoots_holds (fun _ h => by cases h) (by kernel_rfl) (fun _ h => by cases h) floatRoots_row_tie rfl ⟨rfl, rfl⟩ (by kernel_rfl) rfl
    (fun f fn hf hfn => by
      obtain rfl : f = 5 := Option.some.inj ((show Tryd.prog.funcNamed "quadrat/quadratlaw01.FloatRoots" = some 5 by kernel_rfl).symm.trans hf) |>.symm
      obtain rfl : fn = Tryd.f5 := (Option.some.inj (Tryd.func5.symm.trans hfn)).symm
      exact ⟨by kernel_rfl, fun j t ht => by
        rw [Tryd.params5] at ht
        have hm : t ∈ [3, 3, 3] := by simpa using Array.mem_of_getElem? ht
        have hall : ([3, 3, 3].all fun u => !Tryd.prog.wantsStandIn u) = true := by kernel_rfl
        exact (show Tryd.prog.wantsStandIn t = false by simpa using List.all_eq_true.1 hall t hm)⟩)
    (by kernel_rfl)
#print axioms floatRoots_card
end Go.Proofs.YtfdenbgmogojeaaDoor
