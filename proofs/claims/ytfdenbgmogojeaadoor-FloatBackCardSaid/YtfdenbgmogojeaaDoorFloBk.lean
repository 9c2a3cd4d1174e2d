/- The mathematics of exact rounding: a number that is a float's value rounds to that float without flags; and a float in a greater kind and back is the float again. Conditions as written at each lemma. -/
import Derived.Test.YtfdenbgmogojeaaDoorFloCv
import Derived.Test.YtfdenbgmogojeaaDoorFloZ
namespace Go.Proofs.YtfdenbgmogojeaaDoor
open Go.RowKit

theorem bl_mul_pow (M n : Nat) (h : M ≠ 0) : bl (M * 2 ^ n) = n + bl M := by
  have hp := Nat.two_pow_pos n
  have h1 : 2 ^ n ≤ M * 2 ^ n := Nat.le_mul_of_pos_left _ (by omega)
  rw [bl_shr _ n h1, Nat.mul_div_cancel _ hp]

/-- What a finite float consists of. -/
theorem fin_parts (W D E z : Int) (h : KL W D E) (z0 : 0 < z) (z1 : z < endl D) :
    (expo D z - low D) * hid D + mant D z = z ∧ 0 < mant D z ∧ mant D z < 2 * hid D ∧ low D ≤ expo D z ∧ (expo D z = low D ∨ hid D ≤ mant D z) ∧ (cls D z = 1 ∨ cls D z = 2) := by
  obtain ⟨b1, b2, b3, b4, b5⟩ := hid_b W D E h
  have hm := Int.emod_nonneg z (show hid D ≠ 0 by omega)
  have hl := Int.emod_lt_of_pos z (show 0 < hid D by omega)
  have hdm := Int.mul_ediv_add_emod z (hid D)
  by_cases c : z < hid D
  · have hc : cls D z = 1 := by unfold cls; rw [if_neg (by omega), if_pos c]
    unfold mant expo; rw [hc]
    exact ⟨by simp, by simp; omega, by simp; omega, by simp, .inl (by simp), .inl rfl⟩
  · have hc : cls D z = 2 := by unfold cls; rw [if_neg (by omega), if_neg c, if_pos z1]
    have hq : 1 ≤ z / hid D := by
      rw [Int.le_ediv_iff_mul_le (by omega)]; omega
    have e1 : mant D z = z % hid D + hid D := by unfold mant; rw [hc]; rfl
    have e2 : expo D z = z / hid D - 1 + low D := by unfold expo; rw [hc]; rfl
    rw [e1, e2]
    refine ⟨?_, by omega, by omega, by omega, .inr (by omega), .inr hc⟩
    rw [show z / hid D - 1 + low D - low D = z / hid D - 1 by omega, Int.sub_mul, Int.mul_comm (z / hid D)]
    omega

/-- A float's value, whichever way its number is written. -/
def SameV (N : Nat) (e : Int) (M : Nat) (X : Int) : Prop := (∃ i : Nat, N = M * 2 ^ i ∧ e = X - i) ∨ (∃ i : Nat, M = N * 2 ^ i ∧ e = X + i)

theorem round_exact (W D E mode s z : Int) (h : KL W D E) (z0 : 0 < z) (z1 : z < endl D) (N : Nat) (e : Int) (hv : SameV N e (mant D z).toNat (expo D z)) :
    roundF W D mode s N e false = (jn W s z, 0) := by
  obtain ⟨p1, p2, p3, p4, p5, _⟩ := fin_parts W D E z h z0 z1
  obtain ⟨hp, hd, d1, d2⟩ := hid_pow W D E h
  obtain ⟨M, hM⟩ : ∃ M : Nat, M = (mant D z).toNat := ⟨_, rfl⟩
  have hMi : mant D z = (M : Int) := by omega
  rw [← hM] at hv
  rw [hMi] at p1 p2 p3 p5
  have hbM : expo D z + (bl M : Int) - D ≤ expo D z ∧ (expo D z = low D ∨ (bl M : Int) = D) := by
    have h1 : bl M ≤ D.toNat := bl_mono_le M _ (by rw [hd]; rw [hp] at p3; omega)
    refine ⟨by omega, ?_⟩
    rcases p5 with q | q
    · exact .inl q
    · right
      have := bl_eq M D.toNat (by omega) (by rw [hp] at q; omega) (by rw [hd]; rw [hp] at p3; omega)
      omega
  have hN0 : N ≠ 0 := by
    rcases hv with ⟨i, rfl, _⟩ | ⟨i, rfl, _⟩
    · have := Nat.mul_pos (show 0 < M by omega) (Nat.two_pow_pos i); omega
    · intro e; subst e; simp at p2
  have hlast : lastF D N e = expo D z := by
    have hbe : e + (bl N : Int) = expo D z + (bl M : Int) := by
      rcases hv with ⟨i, rfl, rfl⟩ | ⟨i, rfl, rfl⟩
      · rw [bl_mul_pow M i (by omega)]; omega
      · rw [bl_mul_pow N i hN0]; omega
    unfold lastF; rw [hbe]; omega
  have hk : keptF D N e = (M : Int) ∧ restF D N e false = 0 := by
    unfold keptF restF
    rw [hlast]
    rcases hv with ⟨i, rfl, rfl⟩ | ⟨i, rfl, rfl⟩
    · rw [show expo D z - (expo D z - (i : Int)) = (i : Int) by omega]
      unfold cutK cutR
      by_cases c : (i : Int) ≤ 0
      · have : i = 0 := by omega
        subst this
        rw [if_pos (by omega), if_pos (by omega)]
        exact ⟨by simp, rfl⟩
      · rw [if_neg c, if_neg c]
        obtain ⟨j, rfl⟩ : ∃ j, i = j + 1 := ⟨i - 1, by omega⟩
        have hj := Nat.two_pow_pos j
        have e1 : M * 2 ^ (j + 1) = 2 ^ j * (M * 2) := by rw [Nat.pow_succ, ← Nat.mul_assoc, Nat.mul_comm (M * 2 ^ j), Nat.mul_comm M, ← Nat.mul_assoc, Nat.mul_comm 2, Nat.mul_assoc, Nat.mul_comm 2]
        have e2 : (((j + 1 : Nat) : Int) - 1).toNat = j := by omega
        have e3 : (((j + 1 : Nat) : Int)).toNat = j + 1 := by omega
        refine ⟨by rw [e3, Nat.mul_div_cancel _ (Nat.two_pow_pos _)], ?_⟩
        unfold lostB
        rw [e2, e1, Nat.mul_div_cancel_left _ hj, Nat.mul_mod_right]
        simp
    · rw [show expo D z - (expo D z + (i : Int)) = -(i : Int) by omega]
      unfold cutK cutR
      rw [if_pos (by omega), if_pos (by omega), show (-(-(i : Int))).toNat = i by omega]
      exact ⟨rfl, rfl⟩
  have hm : mF D mode s N e false = (M : Int) := by unfold mF; rw [hk.2, steps_0, hk.1]; rfl
  have hs : sizeF D mode s N e false = z := by unfold sizeF; rw [hm, hlast]; exact p1
  unfold roundF
  rw [hs, if_neg (by omega)]
  unfold flagF
  rw [if_pos hk.2]

/-- A finite float in a greater kind. -/
theorem up_kind (W D E W' D' E' z : Int) (h : KL W D E) (h' : KL W' D' E') (hlt : D < D') (z0 : 0 < z) (z1 : z < endl D) :
    ∃ (z' : Int) (i : Nat), 0 < z' ∧ z' < endl D' ∧ (mant D' z').toNat = (mant D z).toNat * 2 ^ i ∧ expo D' z' = expo D z - i := by
  obtain ⟨p1, p2, p3, p4, p5, _⟩ := fin_parts W D E z h z0 z1
  obtain ⟨hp, hd, d1, d2⟩ := hid_pow W D E h
  obtain ⟨hp', hd', d1', d2'⟩ := hid_pow W' D' E' h'
  obtain ⟨M, hM⟩ : ∃ M : Nat, M = (mant D z).toNat := ⟨_, rfl⟩
  have hMi : mant D z = (M : Int) := by omega
  rw [← hM]
  rw [hMi] at p1 p2 p3 p5
  have hb1 : bl M ≤ D.toNat := bl_mono_le M _ (by rw [hd]; rw [hp] at p3; omega)
  have hb0 := bl_pos M (by omega)
  obtain ⟨i, hi⟩ : ∃ i, D'.toNat = i + bl M := ⟨D'.toNat - bl M, by omega⟩
  have hX1 : 2 ^ (D'.toNat - 1) ≤ M * 2 ^ i := by
    rw [show D'.toNat - 1 = (bl M - 1) + i by omega, Nat.pow_add]
    exact Nat.mul_le_mul_right _ (bl_le M (by omega))
  have hX2 : M * 2 ^ i < 2 ^ D'.toNat := by
    rw [hi, Nat.add_comm, Nat.pow_add]
    exact Nat.mul_lt_mul_of_pos_right (bl_lt M) (Nat.two_pow_pos i)
  rw [hd'] at hX2
  have hX1' : hid D' ≤ ((M * 2 ^ i : Nat) : Int) := by rw [hp']; omega
  have hX2' : ((M * 2 ^ i : Nat) : Int) < 2 * hid D' := by rw [hp']; omega
  obtain ⟨X, hX⟩ : ∃ X, X = M * 2 ^ i := ⟨_, rfl⟩
  rw [← hX] at hX1' hX2'
  clear hX1 hX2 hp hd hp' hd'
  have hE : expo D z + (bl M : Int) ≤ expo D z + D := by omega
  have hEz : (expo D z - low D) * hid D ≤ z := by omega
  refine ⟨(expo D z - i - low D' + 1) * hid D' + ((X : Int) - hid D'), i, ?_⟩
  rw [← hX]
  clear hX
  have fin : ∀ z' : Int, z' = (expo D z - i - low D' + 1) * hid D' + ((X : Int) - hid D') → hid D' ≤ z' → z' < endl D' → 0 < hid D' → 0 < z' ∧ z' < endl D' ∧ (mant D' z').toNat = X ∧ expo D' z' = expo D z - i := by
    intro z' hz hlo hup hpos
    have hc : cls D' z' = 2 := by unfold cls; rw [if_neg (by omega), if_neg (by omega), if_pos hup]
    have hq : z' / hid D' = expo D z - i - low D' + 1 := by
      rw [hz, Int.add_comm, Int.add_mul_ediv_right _ _ (by omega), Int.ediv_eq_zero_of_lt (by omega) (by omega)]; omega
    have hr : z' % hid D' = (X : Int) - hid D' := by
      rw [hz, Int.add_comm, Int.add_mul_emod_self_right, Int.emod_eq_of_lt (by omega) (by omega)]
    refine ⟨by omega, hup, ?_, ?_⟩
    · unfold mant; rw [hc, hr]; simp
    · have he : expo D' z' = z' / hid D' - 1 + low D' := by unfold expo; rw [hc]; rfl
      rw [he, hq]; omega
  refine fin _ rfl ?_ ?_ ?_
  all_goals
    rcases h with ⟨rfl, rfl, rfl⟩ | ⟨rfl, rfl, rfl⟩ | ⟨rfl, rfl, rfl⟩ <;> rcases h' with ⟨rfl, rfl, rfl⟩ | ⟨rfl, rfl, rfl⟩ | ⟨rfl, rfl, rfl⟩
  all_goals first
    | (exfalso; omega)
    | (simp only [show hid 11 = 1024 from rfl, show hid 24 = 8388608 from rfl, show hid 53 = 4503599627370496 from rfl, show low 11 = -24 from rfl, show low 24 = -149 from rfl, show low 53 = -1074 from rfl, show endl 11 = 31744 from rfl, show endl 24 = 2139095040 from rfl, show endl 53 = 9218868437227405312 from rfl] at *; omega)

theorem jn_eta0 (W D E a z : Int) (h : KL W D E) (hv : okB W a = true) (hi : I64 a) (hz : siz W a = z) : jn W (sgn W a) z = a := by
  rw [← hz]; exact jn_eta W D E a h hv hi

/-- What Convert gives of a float in a greater kind, and of that back. -/
theorem back_pair (k W D E t W' D' E' mode a : Int) (hk : KK k W D E) (ht : KK t W' D' E') (hlt : D < D') (hm : Mode mode) (hv : okB W a = true) (hi : I64 a) :
    ∃ b c, (∀ w, Calls Tryd.prog 34 #[.int .i64 k, .int .i64 t, .int .i64 mode, .int .i64 a] w fun e w' => e = .returned (.tuple #[.int .i64 b, .int .i64 0, .int .i64 0]) ∧ Below w.heap.size w w') ∧
      (∀ w, Calls Tryd.prog 34 #[.int .i64 t, .int .i64 k, .int .i64 mode, .int .i64 b] w fun e w' => e = .returned (.tuple #[.int .i64 c, .int .i64 0, .int .i64 0]) ∧ Below w.heap.size w w') ∧ (c = a ∨ cls D (siz W a) = 4) := by
  have h := hk.kl
  have h' := ht.kl
  have hs := sgn_s W a
  have hcl := cls_nn D (siz W a)
  have he := endl_b W' D' E' h'
  have hq := qz_b W' D' E' h'
  have hb := hid_b W' D' E' h'
  have hc5 : cls D (siz W a) = 0 ∨ cls D (siz W a) = 3 ∨ cls D (siz W a) = 4 ∨ (cls D (siz W a) = 1 ∨ cls D (siz W a) = 2) := by omega
  rcases hc5 with c | c | c | c
  · obtain ⟨j1, j2, j3, j4⟩ := jn_parts W' D' E' (sgn W a) 0 h' hs (Int.le_refl _) (by omega)
    have hz : siz W a = 0 := by
      unfold cls at c
      repeat' split at c
      all_goals first | assumption | (exfalso; omega) | cases c
    have h2 : ∀ w, _ := fun w => Convert_zero t W' D' E' k W D E mode (jn W' (sgn W a) 0) ht hk hm j3 (by rw [j1]; rfl) w
    rw [j2, jn_eta0 W D E a 0 h hv hi hz] at h2
    exact ⟨_, a, fun w => Convert_zero k W D E t W' D' E' mode a hk ht hm hv c w, h2, .inl rfl⟩
  · obtain ⟨j1, j2, j3, j4⟩ := jn_parts W' D' E' (sgn W a) (endl D') h' hs he.1 he.2
    have hz : siz W a = endl D := by
      unfold cls at c
      repeat' split at c
      all_goals first | assumption | (exfalso; omega) | cases c
    have h2 : ∀ w, _ := fun w => Convert_inf t W' D' E' k W D E mode (jn W' (sgn W a) (endl D')) ht hk hm j3 (by rw [j1]; unfold cls; rw [if_neg (by omega), if_neg (by omega), if_neg (by omega), if_pos rfl]) w
    rw [j2, jn_eta0 W D E a _ h hv hi hz] at h2
    exact ⟨_, a, fun w => Convert_inf k W D E t W' D' E' mode a hk ht hm hv c w, h2, .inl rfl⟩
  · obtain ⟨j1, j2, j3, j4⟩ := jn_parts W' D' E' 0 (qz D') h' (.inl rfl) hq.1 hq.2
    have hqc : cls D' (qz D') = 4 := by rcases h' with ⟨rfl, rfl, rfl⟩ | ⟨rfl, rfl, rfl⟩ | ⟨rfl, rfl, rfl⟩ <;> decide
    exact ⟨_, _, fun w => Convert_none k W D E t W' D' E' mode a hk ht hm hv c w, fun w => Convert_none t W' D' E' k W D E mode (jn W' 0 (qz D')) ht hk hm j3 (by rw [j1]; exact hqc) w, .inr c⟩
  · obtain ⟨z0, z1⟩ := siz_b W D E a h
    have hz : 0 < siz W a ∧ siz W a < endl D := by
      have hbb := hid_b W D E h
      unfold cls at c
      repeat' split at c
      all_goals first | (constructor <;> omega) | (exfalso; omega)
    obtain ⟨z', i, y0, y1, ym, ye⟩ := up_kind W D E W' D' E' _ h h' hlt hz.1 hz.2
    obtain ⟨_, _, _, _, _, hc'⟩ := fin_parts W' D' E' z' h' y0 y1
    obtain ⟨j1, j2, j3, j4⟩ := jn_parts W' D' E' (sgn W a) z' h' hs (by omega) (by omega)
    have r1 : roundF W' D' mode (sgn W a) (mant D (siz W a)).toNat (expo D (siz W a)) false = (jn W' (sgn W a) z', 0) :=
      round_exact W' D' E' mode (sgn W a) z' h' y0 y1 _ _ (.inr ⟨i, ym, by omega⟩)
    have r2 : roundF W D mode (sgn W a) (mant D' z').toNat (expo D' z') false = (jn W (sgn W a) (siz W a), 0) :=
      round_exact W D E mode (sgn W a) (siz W a) h hz.1 hz.2 _ _ (.inl ⟨i, ym, ye⟩)
    have h1 : ∀ w, _ := fun w => Convert_fin k W D E t W' D' E' mode a hk ht hm hv c w
    rw [r1] at h1
    have h2 : ∀ w, _ := fun w => Convert_fin t W' D' E' k W D E mode (jn W' (sgn W a) z') ht hk hm j3 (by rw [j1]; exact hc') w
    rw [j1, j2, r2, jn_eta W D E a h hv hi] at h2
    exact ⟨_, a, h1, h2, .inl rfl⟩
end Go.Proofs.YtfdenbgmogojeaaDoor
