/-
  PROVED: the law FloatProducts (what products and quotients are, and their flags, is the document's answer) returns true for every int and every struct of three ints and leaves them as they were. Conditions: the table of class names holds what the program's text lays (tied by the card).
-/
import Derived.Test.YtfdenbgmogojeaaDoorLawB
import Derived.Test.YtfdenbgmogojeaaDoorRefZ
import Derived.Test.YtfdenbgmogojeaaDoorFloDc
import Derived.Test.YtfdenbgmogojeaaDoorCards
import Derived.Test.YtfdenbgmogojeaaDoorTie
import Derived.SevenTiedAt
import Derived.Lib.SmallJoins
namespace Go.Proofs.YtfdenbgmogojeaaDoor
open Go.RowKit

theorem quo_scale (W D mode sg : Int) (X Y s i : Nat) (e : Int) (hY : 0 < Y) (hN : X * 2 ^ s / Y ≠ 0) (hk : 0 < lastF D (X * 2 ^ s / Y) (e + i) - (e + i)) :
    roundF W D mode sg (X * 2 ^ (s + i) / Y) e (decide (X * 2 ^ (s + i) % Y ≠ 0)) = roundF W D mode sg (X * 2 ^ s / Y) (e + i) (decide (X * 2 ^ s % Y ≠ 0)) := by
  have h1 := Nat.div_add_mod (X * 2 ^ s) Y
  have h2 := Nat.mod_lt (X * 2 ^ s) hY
  rw [Nat.pow_add, ← Nat.mul_assoc]
  generalize X * 2 ^ s / Y = q at *
  generalize X * 2 ^ s % Y = r at *
  have hp := Nat.two_pow_pos i
  have h3 : X * 2 ^ s * 2 ^ i = Y * (q * 2 ^ i) + r * 2 ^ i := by rw [← h1, Nat.add_mul, Nat.mul_assoc]
  rw [h3, Nat.mul_add_div hY, Nat.mul_add_mod]
  have h4 : r * 2 ^ i / Y < 2 ^ i := by
    rw [Nat.div_lt_iff_lt_mul hY, Nat.mul_comm]
    exact Nat.mul_lt_mul_of_pos_left h2 hp
  rw [round_join W D mode sg q (r * 2 ^ i / Y) i e _ hN h4 hk]
  have h5 : (decide (r * 2 ^ i % Y ≠ 0) || decide (r * 2 ^ i / Y ≠ 0)) = decide (r ≠ 0) := by
    rw [Bool.eq_iff_iff]
    simp only [Bool.or_eq_true, decide_eq_true_eq]
    constructor
    · intro h q0
      subst q0
      rw [Nat.zero_mul, Nat.zero_mod, Nat.zero_div] at h
      omega
    · intro h
      have h6 := Nat.div_add_mod (r * 2 ^ i) Y
      have h7 : 0 < r * 2 ^ i := Nat.mul_pos (by omega) hp
      by_cases c : r * 2 ^ i % Y = 0
      · right
        intro c2
        rw [c, c2, Nat.mul_zero] at h6
        omega
      · exact .inl c
  rw [h5]
theorem bl_quo (X Y s m : Nat) (hX : 0 < X) (hY0 : 0 < Y) (hY : Y < 2 ^ m) (hm : m ≤ s) : s - m < bl (X * 2 ^ s / Y) := by
  have h1 : 2 ^ (s - m) ≤ X * 2 ^ s / Y := by
    rw [Nat.le_div_iff_mul_le hY0]
    calc 2 ^ (s - m) * Y ≤ 2 ^ (s - m) * 2 ^ m := Nat.mul_le_mul_left _ (Nat.le_of_lt hY)
      _ = 2 ^ s := by rw [← Nat.pow_add, Nat.sub_add_cancel hm]
      _ ≤ X * 2 ^ s := Nat.le_mul_of_pos_left _ hX
  have h2 := bl_lt (X * 2 ^ s / Y)
  rcases Nat.lt_or_ge (s - m) (bl (X * 2 ^ s / Y)) with c | c
  · exact c
  · have := Nat.pow_le_pow_right (by decide : 1 ≤ 2) c
    omega
theorem y_pow (W D E : Int) (h : KL W D E) (Y : Nat) (hY : (Y : Int) < 2 * hid D) : Y < 2 ^ D.toNat := by
  rcases h with ⟨_, rfl, _⟩ | ⟨_, rfl, _⟩ | ⟨_, rfl, _⟩
  · have : hid 11 = 1024 := rfl
    have e : (2 : Nat) ^ (11 : Int).toNat = 2048 := by decide
    omega
  · have : hid 24 = 8388608 := rfl
    have e : (2 : Nat) ^ (24 : Int).toNat = 16777216 := by decide
    omega
  · have : hid 53 = 4503599627370496 := rfl
    have e : (2 : Nat) ^ (53 : Int).toNat = 9007199254740992 := by decide
    omega
theorem big_quo (W D E : Int) (h : KL W D E) (X Y t : Nat) (hX : 0 < X) (hY0 : 0 < Y) (hY : (Y : Int) < 2 * hid D) (ht : 2 * D + 4 = (t : Int)) : D < (bl (X * 2 ^ t / Y) : Int) := by
  have hd : 11 ≤ D := by rcases h with ⟨_, rfl, _⟩ | ⟨_, rfl, _⟩ | ⟨_, rfl, _⟩ <;> decide
  have := bl_quo X Y t D.toNat hX hY0 (y_pow W D E h Y hY) (by omega)
  omega
/-- The code's quotient rounds as the document's. -/
theorem div_doc (W D E mode sg : Int) (h : KL W D E) (X Y : Nat) (ex ey : Int) (X0 : 0 < X) (Y0 : 0 < Y) (X1 : X < 18014398509481984) (Y1 : Y < 18014398509481984) (YD : (Y : Int) < 2 * hid D) (t : Nat) (ht : 2 * D + 4 = (t : Int)) :
    roundF W D mode sg (quN X Y) (quE X ex Y ey) (decide (quR X Y ≠ 0)) = roundF W D mode sg (X * 2 ^ t / Y) (ex - ey - 2 * D - 4) (decide (X * 2 ^ t % Y ≠ 0)) := by
  have bx : bl X ≤ 54 := bl_mono_le X 54 (by omega)
  have by' : bl Y ≤ 54 := bl_mono_le Y 54 (by omega)
  have hd : 11 ≤ D ∧ D ≤ 53 := by rcases h with ⟨_, rfl, _⟩ | ⟨_, rfl, _⟩ | ⟨_, rfl, _⟩ <;> decide
  obtain ⟨c, hc⟩ : ∃ c, c = 63 - bl X + bl Y := ⟨_, rfl⟩
  have hp := Nat.two_pow_pos (64 - bl Y)
  have e0 : quU X * 18446744073709551616 = X * 2 ^ c * 2 ^ (64 - bl Y) := by
    unfold quU
    rw [show (18446744073709551616 : Nat) = 2 ^ 64 by decide, Nat.mul_assoc, Nat.mul_assoc, ← Nat.pow_add, ← Nat.pow_add, show 63 - bl X + 64 = c + (64 - bl Y) by omega]
  have e1 : quN X Y = X * 2 ^ c / Y := by
    unfold quN quV; rw [e0, Nat.mul_div_mul_right _ _ hp]
  have e2 : decide (quR X Y ≠ 0) = decide (X * 2 ^ c % Y ≠ 0) := by
    have q : quR X Y = X * 2 ^ c % Y * 2 ^ (64 - bl Y) := by unfold quR quV; rw [e0, Nat.mul_mod_mul_right]
    rw [q, Bool.eq_iff_iff]
    simp only [decide_eq_true_eq]
    constructor
    · intro u v; rw [v, Nat.zero_mul] at u; exact u rfl
    · intro u v; rcases Nat.mul_eq_zero.1 v with v | v <;> omega
  have e3 : quE X ex Y ey = ex - ey - c := by unfold quE; omega
  have hN := (qu_len X Y X0 X1 Y0 Y1).2
  rw [e1] at hN
  have hNb : 62 < bl (X * 2 ^ c / Y) := by
    have q := bl_lt (X * 2 ^ c / Y)
    rcases Nat.lt_or_ge 62 (bl (X * 2 ^ c / Y)) with u | u
    · exact u
    · have := Nat.pow_le_pow_right (by decide : 1 ≤ 2) u
      omega
  have hB := big_quo W D E h X Y t X0 Y0 YD ht
  rw [e1, e2, e3]
  rcases Nat.le_total c t with q | q
  · obtain ⟨i, rfl⟩ : ∃ i, t = c + i := ⟨t - c, by omega⟩
    rw [quo_scale W D mode sg X Y c i _ Y0 (by omega) (by unfold lastF; omega), show ex - ey - 2 * D - 4 + (i : Int) = ex - ey - c by omega]
  · obtain ⟨i, rfl⟩ : ∃ i, c = t + i := ⟨c - t, by omega⟩
    have hNt : X * 2 ^ t / Y ≠ 0 := fun u => by rw [u, show bl 0 = 0 from rfl] at hB; omega
    rw [quo_scale W D mode sg X Y t i _ Y0 hNt (by unfold lastF; omega), show ex - ey - ((t + i : Nat) : Int) + (i : Int) = ex - ey - 2 * D - 4 by omega]

theorem tq_all (W D E a : Int) (_h : KL W D E) (hc : cls D (siz W a) = 1 ∨ cls D (siz W a) = 2) : rS W D a = sgn W a ∧ rE D (siz W a) = expo D (siz W a) := by
  constructor
  · unfold rS; rw [if_neg (by omega)]
  · unfold rE; rw [if_pos hc]

theorem rMul_c (k W D E mode a b : Int) (hk : KK k W D E) (hm : Mode mode) (ha : okB W a = true) (hb : okB W b = true) (w : World) :
    Calls Tryd.prog 21 #[.int .i64 k, .int .i64 mode, .int .i64 a, .int .i64 b] w fun e w' => e = .returned (.tuple #[.int .i64 (mulF W D mode a b).1, .int .i64 (mulF W D mode a b).2, .int .i64 0]) ∧ Below w.heap.size w w' := by
  have h := hk.kl
  have na := cls_nn D (siz W a)
  have nb := cls_nn D (siz W b)
  have hq : ∀ w, Calls Tryd.prog 51 #[.int .i64 k, .int .i64 mode, .int .i64 a, .int .i64 b] w fun e w' => e = .returned (.bool true) ∧ w = w' := fun w' => by
    have q := rasked_c k W D E mode a b hk hm w'
    rw [ha, hb] at q; exact q
  have sS : ∀ x, Sgn (rS W D x) := fun x => by unfold rS; split; exact .inl rfl; exact sgn_s W x
  have tz : ∀ c, c = 0 → whS c = ⟨#[122, 101, 114, 111]⟩ := fun c q => by rw [q]; rfl
  have tf : ∀ c, c = 1 ∨ c = 2 → whS c = ⟨#[102, 105, 110, 105, 116, 101]⟩ := fun c q => by rcases q with q | q <;> (rw [q]; rfl)
  have ti : ∀ c, c = 3 → whS c = ⟨#[105, 110, 102, 105, 110, 105, 116, 101]⟩ := fun c q => by rw [q]; rfl
  have tn : ∀ c, c = 4 → whS c = ⟨#[110, 111, 110, 101]⟩ := fun c q => by rw [q]; rfl
  by_cases n4 : cls D (siz W a) = 4 ∨ cls D (siz W b) = 4
  · have hN : mulF W D mode a b = (jn W 0 (qz D), 0) := by unfold mulF; rw [if_pos n4]
    rw [hN]
    by_cases a4 : cls D (siz W a) = 4
    · exact rMul_n k W D E mode a b _ _ _ _ _ _ _ hk hq (tq_of k W D E a hk ha _ (tn _ a4)) (tq_of k W D E b hk hb _ rfl) (sS a) (sS b) w
    · have tb := tq_of k W D E b hk hb _ (tn _ (by omega))
      have c5 : cls D (siz W a) = 0 ∨ (cls D (siz W a) = 1 ∨ cls D (siz W a) = 2) ∨ cls D (siz W a) = 3 := by omega
      rcases c5 with c | c | c
      · exact rMul_zn k W D E mode a b _ _ _ _ _ _ hk hq (tq_of k W D E a hk ha _ (tz _ c)) tb (sS a) (sS b) w
      · exact rMul_fn k W D E mode a b _ _ _ _ _ _ hk hq (tq_of k W D E a hk ha _ (tf _ c)) tb (sS a) (sS b) w
      · exact rMul_in k W D E mode a b _ _ _ _ _ _ hk hq (tq_of k W D E a hk ha _ (ti _ c)) tb (sS a) (sS b) w
  have ra : rS W D a = sgn W a := by unfold rS; rw [if_neg (by omega)]
  have rb : rS W D b = sgn W b := by unfold rS; rw [if_neg (by omega)]
  have hO : mulF W D mode a b = numMul W D mode (cls D (siz W a)) (rS W D a) (mant D (siz W a)) (expo D (siz W a)) (cls D (siz W b)) (rS W D b) (mant D (siz W b)) (expo D (siz W b)) := by unfold mulF; rw [if_neg n4, ra, rb]; rfl
  rw [hO]
  unfold numMul
  have a5 : cls D (siz W a) = 0 ∨ (cls D (siz W a) = 1 ∨ cls D (siz W a) = 2) ∨ cls D (siz W a) = 3 := by omega
  have b5 : cls D (siz W b) = 0 ∨ (cls D (siz W b) = 1 ∨ cls D (siz W b) = 2) ∨ cls D (siz W b) = 3 := by omega
  rcases a5 with ca | ca | ca
  · have ta := tq_of k W D E a hk ha _ (tz _ ca)
    rcases b5 with cb | cb | cb
    · rw [if_neg (by omega), if_neg (by omega), if_pos (by omega)]
      exact rMul_zz k W D E mode a b _ _ _ _ _ _ hk hq ta (tq_of k W D E b hk hb _ (tz _ cb)) (sS a) (sS b) w
    · rw [if_neg (by omega), if_neg (by omega), if_pos (by omega)]
      exact rMul_zf k W D E mode a b _ _ _ _ _ _ hk hq ta (tq_of k W D E b hk hb _ (tf _ cb)) (sS a) (sS b) w
    · rw [if_pos (by omega)]
      exact rMul_zi k W D E mode a b _ _ _ _ _ _ hk hq ta (tq_of k W D E b hk hb _ (ti _ cb)) (sS a) (sS b) w
  · have ta := tq_of k W D E a hk ha _ (tf _ ca)
    rcases b5 with cb | cb | cb
    · rw [if_neg (by omega), if_neg (by omega), if_pos (by omega)]
      exact rMul_fz k W D E mode a b _ _ _ _ _ _ hk hq ta (tq_of k W D E b hk hb _ (tz _ cb)) (sS a) (sS b) w
    · rw [if_neg (by omega), if_neg (by omega), if_neg (by omega)]
      obtain ⟨m1, p1, e1, f1, t1, u1, v1⟩ := fin_nums W D E a h ca
      obtain ⟨m2, p2, e2, f2, t2, u2, v2⟩ := fin_nums W D E b h cb
      have q := rMul_ff k W D E mode a b _ _ _ _ _ _ hk hq ta (tq_of k W D E b hk hb _ (tf _ cb)) (sS a) (sS b) hm u1 u2 (by omega) (by omega) (by rw [(tq_all W D E a h ca).2]; exact ⟨e1, f1⟩) (by rw [(tq_all W D E b h cb).2]; exact ⟨e2, f2⟩) w
      rw [(tq_all W D E a h ca).2, (tq_all W D E b h cb).2] at q
      exact q
    · rw [if_neg (by omega), if_pos (by omega)]
      exact rMul_fi k W D E mode a b _ _ _ _ _ _ hk hq ta (tq_of k W D E b hk hb _ (ti _ cb)) (sS a) (sS b) w
  · have ta := tq_of k W D E a hk ha _ (ti _ ca)
    rcases b5 with cb | cb | cb
    · rw [if_pos (by omega)]
      exact rMul_iz k W D E mode a b _ _ _ _ _ _ hk hq ta (tq_of k W D E b hk hb _ (tz _ cb)) (sS a) (sS b) w
    · rw [if_neg (by omega), if_pos (by omega)]
      exact rMul_if k W D E mode a b _ _ _ _ _ _ hk hq ta (tq_of k W D E b hk hb _ (tf _ cb)) (sS a) (sS b) w
    · rw [if_neg (by omega), if_pos (by omega)]
      exact rMul_ii k W D E mode a b _ _ _ _ _ _ hk hq ta (tq_of k W D E b hk hb _ (ti _ cb)) (sS a) (sS b) w

theorem rDiv_c (k W D E mode a b : Int) (hk : KK k W D E) (hm : Mode mode) (ha : okB W a = true) (hb : okB W b = true) (w : World) :
    Calls Tryd.prog 23 #[.int .i64 k, .int .i64 mode, .int .i64 a, .int .i64 b] w fun e w' => e = .returned (.tuple #[.int .i64 (divF W D mode a b).1, .int .i64 (divF W D mode a b).2, .int .i64 0]) ∧ Below w.heap.size w w' := by
  have h := hk.kl
  have na := cls_nn D (siz W a)
  have nb := cls_nn D (siz W b)
  have hq : ∀ w, Calls Tryd.prog 51 #[.int .i64 k, .int .i64 mode, .int .i64 a, .int .i64 b] w fun e w' => e = .returned (.bool true) ∧ w = w' := fun w' => by
    have q := rasked_c k W D E mode a b hk hm w'
    rw [ha, hb] at q; exact q
  have sS : ∀ x, Sgn (rS W D x) := fun x => by unfold rS; split; exact .inl rfl; exact sgn_s W x
  have tz : ∀ c, c = 0 → whS c = ⟨#[122, 101, 114, 111]⟩ := fun c q => by rw [q]; rfl
  have tf : ∀ c, c = 1 ∨ c = 2 → whS c = ⟨#[102, 105, 110, 105, 116, 101]⟩ := fun c q => by rcases q with q | q <;> (rw [q]; rfl)
  have ti : ∀ c, c = 3 → whS c = ⟨#[105, 110, 102, 105, 110, 105, 116, 101]⟩ := fun c q => by rw [q]; rfl
  have tn : ∀ c, c = 4 → whS c = ⟨#[110, 111, 110, 101]⟩ := fun c q => by rw [q]; rfl
  by_cases n4 : cls D (siz W a) = 4 ∨ cls D (siz W b) = 4
  · have hN : divF W D mode a b = (jn W 0 (qz D), 0) := by unfold divF; rw [if_pos n4]
    rw [hN]
    by_cases a4 : cls D (siz W a) = 4
    · exact rDiv_n k W D E mode a b _ _ _ _ _ _ _ hk hq (tq_of k W D E a hk ha _ (tn _ a4)) (tq_of k W D E b hk hb _ rfl) (sS a) (sS b) w
    · have tb := tq_of k W D E b hk hb _ (tn _ (by omega))
      have c5 : cls D (siz W a) = 0 ∨ (cls D (siz W a) = 1 ∨ cls D (siz W a) = 2) ∨ cls D (siz W a) = 3 := by omega
      rcases c5 with c | c | c
      · exact rDiv_zn k W D E mode a b _ _ _ _ _ _ hk hq (tq_of k W D E a hk ha _ (tz _ c)) tb (sS a) (sS b) w
      · exact rDiv_fn k W D E mode a b _ _ _ _ _ _ hk hq (tq_of k W D E a hk ha _ (tf _ c)) tb (sS a) (sS b) w
      · exact rDiv_in k W D E mode a b _ _ _ _ _ _ hk hq (tq_of k W D E a hk ha _ (ti _ c)) tb (sS a) (sS b) w
  have ra : rS W D a = sgn W a := by unfold rS; rw [if_neg (by omega)]
  have rb : rS W D b = sgn W b := by unfold rS; rw [if_neg (by omega)]
  have hO : divF W D mode a b = numDiv W D mode (cls D (siz W a)) (rS W D a) (mant D (siz W a)) (expo D (siz W a)) (cls D (siz W b)) (rS W D b) (mant D (siz W b)) (expo D (siz W b)) := by unfold divF; rw [if_neg n4, ra, rb]; rfl
  rw [hO]
  unfold numDiv
  have a5 : cls D (siz W a) = 0 ∨ (cls D (siz W a) = 1 ∨ cls D (siz W a) = 2) ∨ cls D (siz W a) = 3 := by omega
  have b5 : cls D (siz W b) = 0 ∨ (cls D (siz W b) = 1 ∨ cls D (siz W b) = 2) ∨ cls D (siz W b) = 3 := by omega
  rcases a5 with ca | ca | ca
  · have ta := tq_of k W D E a hk ha _ (tz _ ca)
    rcases b5 with cb | cb | cb
    · rw [if_pos (by omega)]
      exact rDiv_zz k W D E mode a b _ _ _ _ _ _ hk hq ta (tq_of k W D E b hk hb _ (tz _ cb)) (sS a) (sS b) w
    · rw [if_neg (by omega), if_neg (by omega), if_pos (by omega)]
      exact rDiv_zf k W D E mode a b _ _ _ _ _ _ hk hq ta (tq_of k W D E b hk hb _ (tf _ cb)) (sS a) (sS b) w
    · rw [if_neg (by omega), if_neg (by omega), if_pos (by omega)]
      exact rDiv_zi k W D E mode a b _ _ _ _ _ _ hk hq ta (tq_of k W D E b hk hb _ (ti _ cb)) (sS a) (sS b) w
  · have ta := tq_of k W D E a hk ha _ (tf _ ca)
    rcases b5 with cb | cb | cb
    · rw [if_neg (by omega), if_neg (by omega), if_neg (by omega), if_pos (by omega)]
      exact rDiv_fz k W D E mode a b _ _ _ _ _ _ hk hq ta (tq_of k W D E b hk hb _ (tz _ cb)) (sS a) (sS b) w
    · rw [if_neg (by omega), if_neg (by omega), if_neg (by omega), if_neg (by omega)]
      obtain ⟨m1, p1, e1, f1, t1, u1, v1⟩ := fin_nums W D E a h ca
      obtain ⟨m2, p2, e2, f2, t2, u2, v2⟩ := fin_nums W D E b h cb
      obtain ⟨b0, b1⟩ := siz_b W D E b h
      obtain ⟨n0, n1, _⟩ := mant_b W D E _ h b0 b1
      have hd : 11 ≤ D := by rcases h with ⟨_, rfl, _⟩ | ⟨_, rfl, _⟩ | ⟨_, rfl, _⟩ <;> decide
      have ht : 2 * D + 4 = ((2 * D + 4).toNat : Int) := by omega
      have q := rDiv_ff k W D E mode a b _ _ _ _ _ _ hk hq ta (tq_of k W D E b hk hb _ (tf _ cb)) (sS a) (sS b) hm u1 u2 (by omega) (by omega) (by rw [(tq_all W D E a h ca).2]; exact ⟨e1, f1⟩) (by rw [(tq_all W D E b h cb).2]; exact ⟨e2, f2⟩) _ ht (big_quo W D E h _ _ _ u1 u2 (by omega) ht) w
      rw [(tq_all W D E a h ca).2, (tq_all W D E b h cb).2] at q
      rw [div_doc W D E mode _ h _ _ _ _ u1 u2 (by omega) (by omega) (by omega) _ ht]
      exact q
    · rw [if_neg (by omega), if_neg (by omega), if_pos (by omega)]
      exact rDiv_fi k W D E mode a b _ _ _ _ _ _ hk hq ta (tq_of k W D E b hk hb _ (ti _ cb)) (sS a) (sS b) w
  · have ta := tq_of k W D E a hk ha _ (ti _ ca)
    rcases b5 with cb | cb | cb
    · rw [if_neg (by omega), if_pos (by omega)]
      exact rDiv_iz k W D E mode a b _ _ _ _ _ _ hk hq ta (tq_of k W D E b hk hb _ (tz _ cb)) (sS a) (sS b) w
    · rw [if_neg (by omega), if_pos (by omega)]
      exact rDiv_if k W D E mode a b _ _ _ _ _ _ hk hq ta (tq_of k W D E b hk hb _ (tf _ cb)) (sS a) (sS b) w
    · rw [if_pos (by omega)]
      exact rDiv_ii k W D E mode a b _ _ _ _ _ _ hk hq ta (tq_of k W D E b hk hb _ (ti _ cb)) (sS a) (sS b) w

/-- Where the document says no. -/
theorem asked_bad (k mode a b : Int) (hbad : BadTwo k mode a b) (w : World) :
    Calls Tryd.prog 51 #[.int .i64 k, .int .i64 mode, .int .i64 a, .int .i64 b] w fun e w' => e = .returned (.bool false) ∧ w = w' := by
  by_cases hm : Mode mode
  · rcases hbad with hk | ⟨W, D, E, hk, hbad⟩
    · exact rasked_nok k mode a b hm hk w
    · rcases hbad with hm' | ⟨_, ha | ⟨ha, hb⟩⟩
      · exact absurd hm hm'
      · have q := rasked_c k W D E mode a b hk hm w
        rw [ha, Bool.false_and] at q; exact q
      · have q := rasked_c k W D E mode a b hk hm w
        rw [ha, hb] at q; exact q
  · exact rasked_nom k mode a b hm w

set_option maxRecDepth 100000 in
set_option maxHeartbeats 2000000 in
theorem rMul_bad (k mode a b : Int) (hbad : BadTwo k mode a b) (w : World) :
    Calls Tryd.prog 21 #[.int .i64 k, .int .i64 mode, .int .i64 a, .int .i64 b] w fun e w' => e = .returned (.tuple #[.int .i64 0, .int .i64 0, .int .i64 2]) ∧ Below w.heap.size w w' := by
  have H := Lib.hid (fun w' => asked_bad k mode a b hbad w'); clear hbad
  go_enter Tryd.func21, Tryd.ntmps21
  go_wp2_with fail
  refine (H.out _).mono ?_
  rintro e w0 ⟨rfl, rfl⟩
  go_wp2
  go_ret3
  exact ⟨rfl, Below.refl _ _⟩

set_option maxRecDepth 100000 in
set_option maxHeartbeats 2000000 in
theorem rDiv_bad (k mode a b : Int) (hbad : BadTwo k mode a b) (w : World) :
    Calls Tryd.prog 23 #[.int .i64 k, .int .i64 mode, .int .i64 a, .int .i64 b] w fun e w' => e = .returned (.tuple #[.int .i64 0, .int .i64 0, .int .i64 2]) ∧ Below w.heap.size w w' := by
  have H := Lib.hid (fun w' => asked_bad k mode a b hbad w'); clear hbad
  go_enter Tryd.func23, Tryd.ntmps23
  go_wp2_with fail
  refine (H.out _).mono ?_
  rintro e w0 ⟨rfl, rfl⟩
  go_wp2
  go_ret3
  exact ⟨rfl, Below.refl _ _⟩

end Go.Proofs.YtfdenbgmogojeaaDoor
namespace Go.Proofs.YtfdenbgmogojeaaDoor
open Go Go.ChangeShapes Go.WideShapes Go.ChangeAt Go.WideMaps Go.WideElems Go.RowKit

theorem two_or (k mode a b : Int) : BadTwo k mode a b ∨ ∃ W D E, KK k W D E ∧ Mode mode ∧ okB W a = true ∧ okB W b = true := by
  have hk : NoK k ∨ (∃ W D E, KK k W D E) := by
    by_cases c2 : k = 2
    · exact .inr ⟨16, 11, 5, .inl ⟨c2, rfl, rfl, rfl⟩⟩
    by_cases c4 : k = 4
    · exact .inr ⟨32, 24, 8, .inr (.inl ⟨c4, rfl, rfl, rfl⟩)⟩
    by_cases c8 : k = 8
    · exact .inr ⟨64, 53, 11, .inr (.inr ⟨c8, rfl, rfl, rfl⟩)⟩
    · exact .inl ⟨by simp [c2], by simp [c4], by simp [c8]⟩
  rcases hk with hk | ⟨W, D, E, hk⟩
  · exact .inl (.inl hk)
  · by_cases hm : Mode mode
    · cases ha : okB W a
      · exact .inl (.inr ⟨W, D, E, hk, .inr ⟨hm, .inl ha⟩⟩)
      · cases hb : okB W b
        · exact .inl (.inr ⟨W, D, E, hk, .inr ⟨hm, .inr ⟨ha, hb⟩⟩⟩)
        · exact .inr ⟨W, D, E, hk, hm, ha, hb⟩
    · exact .inl (.inr ⟨W, D, E, hk, .inl hm⟩)

set_option maxHeartbeats 1000000 in
theorem products_law (k mode x y a n f c p g : Int)
    (h15 : ∀ w, Calls Tryd.prog 20 #[.int .i64 k, .int .i64 mode, .int .i64 x, .int .i64 y] w fun e' w' => e' = .returned (.tuple #[.int .i64 a, .int .i64 n, .int .i64 f]) ∧ Below w.heap.size w w')
    (h16 : ∀ w, Calls Tryd.prog 21 #[.int .i64 k, .int .i64 mode, .int .i64 x, .int .i64 y] w fun e' w' => e' = .returned (.tuple #[.int .i64 a, .int .i64 n, .int .i64 f]) ∧ Below w.heap.size w w')
    (h17 : ∀ w, Calls Tryd.prog 22 #[.int .i64 k, .int .i64 mode, .int .i64 x, .int .i64 y] w fun e' w' => e' = .returned (.tuple #[.int .i64 c, .int .i64 p, .int .i64 g]) ∧ Below w.heap.size w w')
    (h18 : ∀ w, Calls Tryd.prog 23 #[.int .i64 k, .int .i64 mode, .int .i64 x, .int .i64 y] w fun e' w' => e' = .returned (.tuple #[.int .i64 c, .int .i64 p, .int .i64 g]) ∧ Below w.heap.size w w')
    (w : World) (hcn : CN w) :
    Calls Tryd.prog 4 #[.int .i64 k, .agg #[.int .i64 mode, .int .i64 x, .int .i64 y]] w fun e w' => e = .returned (.bool true) ∧ Below w.heap.size w w' := by
  have H15 := Lib.hid h15; clear h15
  have H16 := Lib.hid h16; clear h16
  have H17 := Lib.hid h17; clear h17
  have H18 := Lib.hid h18; clear h18
  have Hn := Lib.hid hcn; clear hcn
  have t1 : (a == a) = true := by simp
  have t2 : (n == n) = true := by simp
  have t3 : (f == f) = true := by simp
  have t4 : (c == c) = true := by simp
  have t5 : (p == p) = true := by simp
  have t6 : (g == g) = true := by simp
  go_enter Tryd.func4, Tryd.ntmps4
  go_wp2_with fail
  refine (H15.out _).mono ?_
  rintro e' w1 ⟨rfl, hb⟩
  have hL := (Has.new w [.int .i64 mode, .int .i64 x, .int .i64 y] 23).keep hb
  have hB : Below w.heap.size w w1 := bt (by go_grown) hb
  obtain ⟨l0, l1, l2⟩ := hL.c3
  clear hb
  go_wp2_with fail
  refine (H16.out _).mono ?_
  rintro e w2 ⟨rfl, hb⟩
  have hB := bt hB hb
  have hL := hL.keep hb
  clear l0 l1 l2 hb
  obtain ⟨l0, l1, l2⟩ := hL.c3
  go_wp2_with fail
  refine (H17.out _).mono ?_
  rintro e w3 ⟨rfl, hb⟩
  have hB := bt hB hb
  have hL := hL.keep hb
  clear l0 l1 l2 hb
  obtain ⟨l0, l1, l2⟩ := hL.c3
  go_wp2_with fail
  refine (H18.out _).mono ?_
  rintro e w4 ⟨rfl, hb⟩
  have hB := bt hB hb
  go_wp2_with fail
  refine (Awake_c _ (Hn.out.keep hB)).mono ?_
  rintro e w5 ⟨rfl, hb⟩
  have hB := bt hB hb
  go_wp2
  go_ret
  exact ⟨rfl, hB⟩

theorem floatProducts_walk (k mode x y : Int) (_ : I64 k) (_ : I64 mode) (_ : I64 x) (_ : I64 y) (w : World) (hcn : CN w) :
    Calls Tryd.prog 4 #[.int .i64 k, .agg #[.int .i64 mode, .int .i64 x, .int .i64 y]] w fun e w' => e = .returned (.bool true) ∧ Below w.heap.size w w' := by
  rcases two_or k mode x y with hb | ⟨W, D, E, hk, hm, hx, hy⟩
  · exact products_law k mode x y 0 0 2 0 0 2 (fun w' => Mul_bad k mode x y hb w') (fun w' => rMul_bad k mode x y hb w') (fun w' => Div_bad k mode x y hb w') (fun w' => rDiv_bad k mode x y hb w') w hcn
  · exact products_law k mode x y _ _ _ _ _ _ (fun w' => Mul_c k W D E mode x y hk hm hx hy w') (fun w' => rMul_c k W D E mode x y hk hm hx hy w') (fun w' => Div_c k W D E mode x y hk hm hx hy w') (fun w' => rDiv_c k W D E mode x y hk hm hx hy w') w hcn

set_option maxRecDepth 100000 in
theorem floatProducts_lifted (os : Os) (started : os.Started) (H : Type) (enc : TypeId × Value → H) :
    ReturnsInHanded {} Tryd.checked os 4 .any (fun w args => (Rows.floatProductsSpec.pre enc Tryd.prog Tryd.f4 [] false w args ∧ laidMetH Tryd.prog laidL w) ∧ sizedMet enc Tryd.prog Tryd.f4 (OpenSpec.ofChange Rows.floatProductsSpec) false w args)
      (Rows.floatProductsSpec.post enc Tryd.prog Tryd.f4 false true false false) := by
  refine returnsInHanded_of_change_and (C := Tryd.checked) (X := fun w _ => laidMetH Tryd.prog laidL w) (fun _ _ _ hh h => h.of_heap hh) own started (by kernel_rfl) Tryd.func4
    (ChangeSpec.witness_shaped (enc := enc) (C := Tryd.checked) (os := os) (X := fun w _ => laidMetH Tryd.prog laidL w) false (World.doorLaid Tryd.prog 400 os) #[.int .i64 0, .agg #[.int .i64 0, .int .i64 0, .int .i64 0]] 8 rfl (World.shaped_of_RefB (by kernel_rfl) (by kernel_rfl)) (by kernel_rfl) (by kernel_rfl) (by kernel_rfl) (door_met os _)) ?_
  intro W base args ds gs before hval0 hW _ _ hL _
  have hval : ∀ (j : Nat) t v, Tryd.f4.params[j]? = some t → args[j]? = some v → Value.okWide Tryd.prog W .any base t v := hval0
  have hW' := hW
  obtain ⟨p, q, hA0, hV, rfl, hfz, hnd⟩ := hW
  have hA : DataW.TrodAll enc Tryd.prog W 0 (fun _ => true) true Tryd.f4.params.toList args.toList ds p := hA0
  rw [Tryd.params4] at hA hval
  obtain ⟨v0, vs0, d0, ds0, p0, q0, hargs, rfl, rfl, h0, r0⟩ := trodAll_cons hA
  obtain ⟨v1, vs1, d1, ds1, p1, q1, rfl, rfl, rfl, h1, r1⟩ := trodAll_cons r0
  obtain ⟨rfl, rfl, rfl⟩ := trodAll_nil r1
  obtain rfl : args = #[v0, v1] := by cases args; simp_all
  obtain ⟨rfl, rfl⟩ := trodVars_none hV
  obtain ⟨a0, rfl, rfl, rfl, w0⟩ := open_int Tryd.underlying3 (hval 0 3 v0 rfl rfl) h0
  obtain ⟨c1_0, c1_1, c1_2, y1_0, y1_1, y1_2, m1, rfl, rfl, rfl, g1_0, g1_1, g1_2⟩ := Go.Joins.open_agg3 Tryd.underlying23 (by kernel_rfl) (show Tryd.prog.cellsOf 23 = 3 by kernel_rfl) (hval 1 23 v1 rfl rfl) h1
  obtain ⟨b1_0, e1_0, rfl, x1_0⟩ := DataW.trod_int Tryd.underlying3 g1_0
  simp only [List.cons.injEq, and_true] at e1_0
  subst e1_0
  obtain ⟨b1_1, e1_1, rfl, x1_1⟩ := DataW.trod_int Tryd.underlying3 g1_1
  simp only [List.cons.injEq, and_true] at e1_1
  subst e1_1
  obtain ⟨b1_2, e1_2, rfl, x1_2⟩ := DataW.trod_int Tryd.underlying3 g1_2
  simp only [List.cons.injEq, and_true] at e1_2
  subst e1_2
  have hcn := of_laid hL
  clear hA0 hval0
  simp only [List.append_nil] at hW'
  refine (floatProducts_walk a0 b1_0 b1_1 b1_2 (by have := bounds_i64 w0; unfold I64; omega) (by have := bounds_i64 x1_0; unfold I64; omega) (by have := bounds_i64 x1_1; unfold I64; omega) (by have := bounds_i64 x1_2; unfold I64; omega) W hcn).mono fun e W' ⟨he, hb⟩ => ?_
  subst he
  exact ⟨_, rfl, post_plain hW' (fun _ _ _ => (trodAll_cons_mk (shut_bool Tryd.underlying4 _) trodAll_mk0)) (fun _ => (trodAll_cons_mk (shut_int Tryd.underlying3 w0) (trodAll_cons_mk (Go.Joins.shut_agg3 (y0 := (.lit (.int .i64 b1_0), [])) (y1 := (.lit (.int .i64 b1_1), [])) (y2 := (.lit (.int .i64 b1_2), [])) Tryd.underlying23 (by kernel_rfl) (show Tryd.prog.cellsOf 23 = 3 by kernel_rfl) ⟨1, by simp [DataW.trod, Tryd.underlying3, x1_0]⟩ ⟨1, by simp [DataW.trod, Tryd.underlying3, x1_1]⟩ ⟨1, by simp [DataW.trod, Tryd.underlying3, x1_2]⟩) trodAll_mk0))) (fun _ => rfl) hb (ok_one (by kernel_rfl) rfl (okWide_bool_mk Tryd.underlying4 _))⟩

theorem floatProducts_holds : Rows.FloatProductsSaid :=
  OpenClaim.holds_of_wide 4 Tryd.f4 rfl rfl rfl rfl rfl rfl rfl ⟨rfl, rfl, rfl, rfl, rfl⟩ rfl rfl rfl rfl rfl (by kernel_rfl) Tryd.func4 (by kernel_rfl)
    (of_decide_eq_true (by kernel_rfl)) (by unfold Func.isWrapper; first | (rw [if_pos (by decide +kernel)]; kernel_rfl) | (rw [if_neg (by decide +kernel)]; exact ⟨rfl, rfl⟩))
    (fun os started H enc _ => floatProducts_lifted os started H enc)

theorem floatProducts_card : Rows.FloatProductsCardSaid :=
  Claim7.holds_tied_plain_at .later [] [.data] true Rows.floatProductsCard.stood.harness false
    floatProducts_holds (fun _ h => by cases h) (by kernel_rfl) (fun _ h => by cases h) floatProducts_row_tie rfl ⟨rfl, rfl⟩ (by kernel_rfl) rfl
    (fun f fn hf hfn => by
      obtain rfl : f = 4 := Option.some.inj ((show Tryd.prog.funcNamed "quadrat/quadratlaw01.FloatProducts" = some 4 by kernel_rfl).symm.trans hf) |>.symm
      obtain rfl : fn = Tryd.f4 := (Option.some.inj (Tryd.func4.symm.trans hfn)).symm
      exact ⟨by kernel_rfl, fun j t ht => by
        rw [Tryd.params4] at ht
        have hm : t ∈ [3, 23] := by simpa using Array.mem_of_getElem? ht
        have hall : ([3, 23].all fun u => !Tryd.prog.wantsStandIn u) = true := by kernel_rfl
        exact (show Tryd.prog.wantsStandIn t = false by simpa using List.all_eq_true.1 hall t hm)⟩)
    (by kernel_rfl)
#print axioms floatProducts_card
end Go.Proofs.YtfdenbgmogojeaaDoor
