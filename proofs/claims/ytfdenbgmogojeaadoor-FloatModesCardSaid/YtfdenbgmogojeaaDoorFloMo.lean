/- The mathematics of modes: sums and products do not ask which operand is first; what is rounded down is at most what is rounded up, and the same only where nothing was rounded. No program; conditions as written at each lemma. -/
import Derived.Test.YtfdenbgmogojeaaDoorFloMd
import Derived.Test.YtfdenbgmogojeaaDoorFloDc
import Derived.Test.YtfdenbgmogojeaaDoorFloY
import Derived.Test.YtfdenbgmogojeaaDoorFloZ
namespace Go.Proofs.YtfdenbgmogojeaaDoor
open Go Go.RowKit

theorem hi_nn (x : Int) (h : 0 ≤ x) : hiP (nn x 0) = x := by
  obtain ⟨n, rfl⟩ := Int.eq_ofNat_of_zero_le h
  unfold hiP
  rw [nn0, show (2 : Nat) ^ 64 = 18446744073709551616 by decide, Nat.mul_div_cancel _ (by decide)]
theorem lost_0 (n : Nat) : lostB n 0 = false := by unfold lostB; simp [Nat.mod_one]
theorem sum_n0 (xs xm ys ym : Int) (hy : 0 ≤ ym) : sumN xs xm ys ym 0 = if xs = ys then xm.toNat * 18446744073709551616 + nn ym 0 else if xm < ym then (ym.toNat - xm.toNat) * 18446744073709551616 else xm.toNat * 18446744073709551616 - nn ym 0 := by
  unfold sumN
  rw [Nat.pow_zero, Nat.div_one, hi_nn ym hy, lost_0]
  simp only [Bool.false_eq_true, if_false, Nat.sub_zero]
theorem nn_n (x : Int) (h : 0 ≤ x) : nn x 0 = x.toNat * 18446744073709551616 := by
  obtain ⟨n, rfl⟩ := Int.eq_ofNat_of_zero_le h
  rw [nn0]; rfl
theorem sym_core (xs xm ys ym : Int) (K : Nat) : (if xs = ys then xm.toNat * K + ym.toNat * K else if xm < ym then (ym.toNat - xm.toNat) * K else xm.toNat * K - ym.toNat * K) = (if ys = xs then ym.toNat * K + xm.toNat * K else if ym < xm then (xm.toNat - ym.toNat) * K else ym.toNat * K - xm.toNat * K) := by
  by_cases h : xs = ys
  · have h' : ys = xs := h.symm
    rw [if_pos h, if_pos h', Nat.add_comm]
  · have h' : ¬ ys = xs := fun q => h q.symm
    rw [if_neg h, if_neg h']
    rcases Int.lt_trichotomy xm ym with c | c | c
    · have c' : ¬ ym < xm := by omega
      rw [if_pos c, if_neg c', Nat.sub_mul]
    · subst c; rfl
    · have c' : ¬ xm < ym := by omega
      rw [if_neg c', if_pos c, Nat.sub_mul]
theorem sum_sym (xs xm ys ym : Int) (hx : M54 xm) (hy : M54 ym) : sumN xs xm ys ym 0 = sumN ys ym xs xm 0 ∧ (sumN xs xm ys ym 0 ≠ 0 → sumS xs xm ys ym 0 = sumS ys ym xs xm 0) ∧ lostB (nn xm 0) 0 = lostB (nn ym 0) 0 := by
  obtain ⟨x0, _⟩ := hx
  obtain ⟨y0, _⟩ := hy
  have hN := sum_n0 xs xm ys ym y0
  have hN' := sum_n0 ys ym xs xm x0
  rw [nn_n ym y0] at hN
  rw [nn_n xm x0] at hN'
  refine ⟨by rw [hN, hN']; exact sym_core _ _ _ _ _, ?_, by rw [lost_0, lost_0]⟩
  intro hne
  rw [hN] at hne
  unfold sumS
  rw [Nat.pow_zero, Nat.div_one, Nat.div_one, hi_nn ym y0, hi_nn xm x0]
  by_cases h : xs = ys
  · have h' : ys = xs := h.symm
    rw [if_pos h, if_pos h']; exact h
  · have h' : ¬ ys = xs := fun q => h q.symm
    rw [if_neg h] at hne
    rw [if_neg h, if_neg h']
    rcases Int.lt_trichotomy xm ym with c | c | c
    · have c' : ¬ ym < xm := by omega
      rw [if_pos c, if_neg c']
    · exfalso
      have c' : ¬ xm < ym := by omega
      rw [if_neg c', c] at hne
      exact hne (Nat.sub_self _)
    · have c' : ¬ xm < ym := by omega
      rw [if_neg c', if_pos c]

theorem finSum_swap (W D mode sx mx ex sy my ey : Int) (hx : M54 mx) (hy : M54 my) : finSum W D mode sx mx ex sy my ey = finSum W D mode sy my ey sx mx ex := by
  have key : fN sx mx ex sy my ey = fN sy my ey sx mx ex ∧ (fN sx mx ex sy my ey ≠ 0 → fS sx mx ex sy my ey = fS sy my ey sx mx ex ∧ fL mx ex my ey = fL my ey mx ex ∧ fE ex ey = fE ey ex) := by
    unfold fN fS fL fE
    rcases Int.lt_trichotomy ex ey with c | c | c
    · have c' : ¬ ey < ex := by omega
      simp only [if_pos c, if_neg c', true_and]
      intro _; trivial
    · subst c
      simp only [Int.lt_irrefl, if_false, Int.sub_self, Int.toNat_zero]
      obtain ⟨h1, h2, h3⟩ := sum_sym sx mx sy my hx hy
      exact ⟨h1, fun q => ⟨h2 q, h3.symm, trivial⟩⟩
    · have c' : ¬ ex < ey := by omega
      simp only [if_pos c, if_neg c', true_and]
      intro _; trivial
  obtain ⟨k1, k2⟩ := key
  unfold finSum
  by_cases h : fN sx mx ex sy my ey = 0
  · have h' : fN sy my ey sx mx ex = 0 := by rw [← k1]; exact h
    simp only [if_pos h, if_pos h']
    by_cases hs : sx = sy
    · have hs' : sy = sx := hs.symm
      simp only [if_pos hs, if_pos hs']; rw [hs]
    · have hs' : ¬ sy = sx := fun q => hs q.symm
      simp only [if_neg hs, if_neg hs']
  · obtain ⟨k3, k4, k5⟩ := k2 h
    have h' : ¬ fN sy my ey sx mx ex = 0 := by rw [← k1]; exact h
    simp only [if_neg h, if_neg h']
    rw [← k1, k3, k4, k5]

theorem add_swap (W D E mode a b : Int) (h : KL W D E) : addF W D mode a b = addF W D mode b a := by
  obtain ⟨a0, a1⟩ := siz_b W D E a h
  obtain ⟨b0, b1⟩ := siz_b W D E b h
  obtain ⟨m0, m1, _⟩ := mant_b W D E _ h a0 a1
  obtain ⟨n0, n1, _⟩ := mant_b W D E _ h b0 b1
  have hbd := hid_b W D E h
  unfold addF
  by_cases c : cls D (siz W a) = 4 ∨ cls D (siz W b) = 4
  · have c' := c.symm
    simp only [if_pos c, if_pos c']
  · have c' : ¬ (cls D (siz W b) = 4 ∨ cls D (siz W a) = 4) := fun q => c q.symm
    simp only [if_neg c, if_neg c']
    unfold opAdd numAdd
    by_cases p : cls D (siz W a) = 3
    · by_cases q : cls D (siz W b) = 3
      · by_cases r : sgn W a = sgn W b
        · have r1 : ¬ (cls D (siz W a) = 3 ∧ cls D (siz W b) = 3 ∧ sgn W a ≠ sgn W b) := fun t => t.2.2 r
          have r2 : ¬ (cls D (siz W b) = 3 ∧ cls D (siz W a) = 3 ∧ sgn W b ≠ sgn W a) := fun t => t.2.2 r.symm
          simp only [if_neg r1, if_neg r2, if_pos p, if_pos q]; rw [r]
        · have r1 : cls D (siz W a) = 3 ∧ cls D (siz W b) = 3 ∧ sgn W a ≠ sgn W b := ⟨p, q, r⟩
          have r2 : cls D (siz W b) = 3 ∧ cls D (siz W a) = 3 ∧ sgn W b ≠ sgn W a := ⟨q, p, fun t => r t.symm⟩
          simp only [if_pos r1, if_pos r2]
      · have r1 : ¬ (cls D (siz W a) = 3 ∧ cls D (siz W b) = 3 ∧ sgn W a ≠ sgn W b) := fun t => q t.2.1
        have r2 : ¬ (cls D (siz W b) = 3 ∧ cls D (siz W a) = 3 ∧ sgn W b ≠ sgn W a) := fun t => q t.1
        simp only [if_neg r1, if_neg r2, if_pos p, if_neg q]
    · have r1 : ¬ (cls D (siz W a) = 3 ∧ cls D (siz W b) = 3 ∧ sgn W a ≠ sgn W b) := fun t => p t.1
      have r2 : ¬ (cls D (siz W b) = 3 ∧ cls D (siz W a) = 3 ∧ sgn W b ≠ sgn W a) := fun t => p t.2.1
      by_cases q : cls D (siz W b) = 3
      · simp only [if_neg r1, if_neg r2, if_neg p, if_pos q]
      · simp only [if_neg r1, if_neg r2, if_neg p, if_neg q]
        exact finSum_swap W D mode _ _ _ _ _ _ ⟨m0, by omega⟩ ⟨n0, by omega⟩

theorem sgX_swap (x y : Int) : sgX x y = sgX y x := by
  unfold sgX; by_cases h : x = y
  · have h' := h.symm
    simp only [if_pos h, if_pos h']
  · have h' : ¬ y = x := fun q => h q.symm
    simp only [if_neg h, if_neg h']
theorem mul_swap (W D mode a b : Int) : mulF W D mode a b = mulF W D mode b a := by
  unfold mulF
  by_cases c : cls D (siz W a) = 4 ∨ cls D (siz W b) = 4
  · have c' := c.symm
    simp only [if_pos c, if_pos c']
  · have c' : ¬ (cls D (siz W b) = 4 ∨ cls D (siz W a) = 4) := fun q => c q.symm
    simp only [if_neg c, if_neg c']
    unfold opMul numMul
    rw [sgX_swap (sgn W b), Nat.mul_comm (mant D (siz W b)).toNat, Int.add_comm (expo D (siz W b))]
    have e0 : (cls D (siz W b) = 0 ∨ cls D (siz W a) = 0) ↔ (cls D (siz W a) = 0 ∨ cls D (siz W b) = 0) := or_comm
    have e3 : (cls D (siz W b) = 3 ∨ cls D (siz W a) = 3) ↔ (cls D (siz W a) = 3 ∨ cls D (siz W b) = 3) := or_comm
    simp only [e0, e3]

/-- What down and up give. -/
def UpDown (W D : Int) (p q : Int × Int) : Prop := okB W p.1 = true ∧ okB W q.1 = true ∧ cmpF W D p.1 q.1 ≠ 1 ∧ (p.1 ≠ q.1 ∨ (bits .and .i64 (bits .or .i64 p.2 q.2) 16 == 0) = true)
theorem cmp_self (W D a : Int) : cmpF W D a a ≠ 1 := by
  unfold cmpF; split
  · omega
  · rw [if_neg (by omega), if_neg (by omega)]; omega
theorem ud_same (W D x f : Int) (hx : okB W x = true) (hf : f = 0 ∨ f = 1 ∨ f = 2) : UpDown W D (x, f) (x, f) :=
  ⟨hx, hx, cmp_self W D x, .inr (by rcases hf with rfl | rfl | rfl; (show (bits .and .i64 (bits .or .i64 0 0) 16 == 0) = true; decide); (show (bits .and .i64 (bits .or .i64 1 1) 16 == 0) = true; decide); (show (bits .and .i64 (bits .or .i64 2 2) 16 == 0) = true; decide))⟩
theorem ud_sizes (W D E s z2 z3 f2 f3 : Int) (h : KL W D E) (hs : Sgn s) (a0 : 0 ≤ z2) (a1 : z2 ≤ endl D) (b0 : 0 ≤ z3) (b1 : z3 ≤ endl D) (o0 : s = 0 → z2 ≤ z3) (o1 : s = 1 → z3 ≤ z2) (hf : z2 = z3 → f2 = 0 ∧ f3 = 0) :
    UpDown W D (jn W s z2, f2) (jn W s z3, f3) := by
  have he := hf_b h
  obtain ⟨p1, p2, p3, _⟩ := jn_parts W D E s z2 h hs a0 (by omega)
  obtain ⟨q1, q2, q3, _⟩ := jn_parts W D E s z3 h hs b0 (by omega)
  refine ⟨p3, q3, ?_, ?_⟩
  · show cmpF W D (jn W s z2) (jn W s z3) ≠ 1
    unfold cmpF placeF
    rw [p1, p2, q1, q2]
    split
    · omega
    · rcases hs with rfl | rfl
      · have := o0 rfl
        simp only [show ¬ (0 : Int) = 1 by decide, if_false]
        have c1 : ¬ z3 < z2 := by omega
        by_cases c : z2 < z3
        · simp only [if_pos c]; decide
        · simp only [if_neg c, if_neg c1]; decide
      · have := o1 rfl
        simp only [if_true]
        have c1 : ¬ -z3 < -z2 := by omega
        by_cases c : -z2 < -z3
        · simp only [if_pos c]; decide
        · simp only [if_neg c, if_neg c1]; decide
  · by_cases c : z2 = z3
    · obtain ⟨rfl, rfl⟩ := hf c
      exact .inr (by show (bits .and .i64 (bits .or .i64 0 0) 16 == 0) = true; decide)
    · left
      show jn W s z2 ≠ jn W s z3
      intro q; apply c; rw [← p1, ← q1, q]
theorem ud_zeros (W D E : Int) (h : KL W D E) : UpDown W D (jn W 1 0, 0) (jn W 0 0, 0) := by
  have hb := one_b h
  obtain ⟨p1, p2, p3, _⟩ := jn_parts W D E 1 0 h (.inr rfl) (by omega) (by omega)
  obtain ⟨q1, q2, q3, _⟩ := jn_parts W D E 0 0 h (.inl rfl) (by omega) (by omega)
  refine ⟨p3, q3, ?_, .inr (by show (bits .and .i64 (bits .or .i64 0 0) 16 == 0) = true; decide)⟩
  show cmpF W D (jn W 1 0) (jn W 0 0) ≠ 1
  unfold cmpF placeF
  rw [p1, p2, q1, q2]
  split
  · omega
  · simp

theorem steps_2 (s k r : Int) : stepsF 2 s k r = (decide (r ≠ 0) && s == 1) := by
  unfold stepsF
  by_cases c : r = 0
  · rw [if_pos c]; simp [c]
  · rw [if_neg c, if_neg (by decide), if_pos rfl]; simp [c]
theorem steps_3 (s k r : Int) : stepsF 3 s k r = (decide (r ≠ 0) && s == 0) := by
  unfold stepsF
  by_cases c : r = 0
  · rw [if_pos c]; simp [c]
  · rw [if_neg c, if_neg (by decide), if_neg (by decide), if_pos rfl]; simp [c]
theorem cutK_nn (n : Nat) (k : Int) : 0 ≤ cutK n k := by unfold cutK; split <;> exact Int.natCast_nonneg _

theorem round_ud (W D E s : Int) (h : KL W D E) (hs : Sgn s) (n : Nat) (e : Int) (more : Bool) : UpDown W D (roundF W D 2 s n e more) (roundF W D 3 s n e more) := by
  obtain ⟨B, hB⟩ : ∃ B, B = (lastF D n e - low D) * hid D + keptF D n e := ⟨_, rfl⟩
  have hbd := hid_b W D E h
  have h0 : 0 ≤ B := by
    have h1 : 0 ≤ lastF D n e - low D := by unfold lastF; omega
    have h2 : 0 ≤ (lastF D n e - low D) * hid D := Int.mul_nonneg h1 (by omega)
    have h3 : 0 ≤ keptF D n e := cutK_nn _ _
    omega
  have he : 0 < endl D := by omega
  obtain ⟨r, hr⟩ : ∃ r, r = restF D n e more := ⟨_, rfl⟩
  have z2 : sizeF D 2 s n e more = if r ≠ 0 ∧ s = 1 then B + 1 else B := by
    unfold sizeF mF
    rw [steps_2, ← hr, hB]
    by_cases c : r ≠ 0 ∧ s = 1
    · rw [if_pos c, if_pos (by simp [c.1, c.2])]; omega
    · rw [if_neg c, if_neg (by simp only [Bool.and_eq_true, decide_eq_true_eq, beq_iff_eq]; exact c)]
  have z3 : sizeF D 3 s n e more = if r ≠ 0 ∧ s = 0 then B + 1 else B := by
    unfold sizeF mF
    rw [steps_3, ← hr, hB]
    by_cases c : r ≠ 0 ∧ s = 0
    · rw [if_pos c, if_pos (by simp [c.1, c.2])]; omega
    · rw [if_neg c, if_neg (by simp only [Bool.and_eq_true, decide_eq_true_eq, beq_iff_eq]; exact c)]
  have hfl : r = 0 → flagF D n e more = 0 := fun q => by unfold flagF; rw [← hr, if_pos q]
  unfold roundF
  rw [z2, z3]
  unfold ovF toInf
  rcases hs with rfl | rfl
  · have e2 : (if r ≠ 0 ∧ (0 : Int) = 1 then B + 1 else B) = B := if_neg (by omega)
    rw [e2]
    by_cases c : r = 0
    · have e3 : (if r ≠ 0 ∧ (0 : Int) = 0 then B + 1 else B) = B := if_neg (fun q => q.1 c)
      rw [e3, hfl c]
      by_cases o : endl D ≤ B
      · simp only [if_pos o]
        exact ud_sizes W D E 0 (endl D - 1) (endl D) 20 20 h (.inl rfl) (by omega) (by omega) (by omega) (by omega) (by omega) (by omega) (by omega)
      · simp only [if_neg o]
        exact ud_sizes W D E 0 B B 0 0 h (.inl rfl) h0 (by omega) h0 (by omega) (by omega) (by omega) (fun _ => ⟨rfl, rfl⟩)
    · have e3 : (if r ≠ 0 ∧ (0 : Int) = 0 then B + 1 else B) = B + 1 := if_pos ⟨c, rfl⟩
      rw [e3]
      by_cases o : endl D ≤ B
      · have o' : endl D ≤ B + 1 := by omega
        simp only [if_pos o, if_pos o']
        exact ud_sizes W D E 0 (endl D - 1) (endl D) 20 20 h (.inl rfl) (by omega) (by omega) (by omega) (by omega) (by omega) (by omega) (by omega)
      · by_cases o' : endl D ≤ B + 1
        · simp only [if_neg o, if_pos o']
          exact ud_sizes W D E 0 B (endl D) _ 20 h (.inl rfl) h0 (by omega) (by omega) (by omega) (by omega) (by omega) (by omega)
        · simp only [if_neg o, if_neg o']
          exact ud_sizes W D E 0 B (B + 1) _ _ h (.inl rfl) h0 (by omega) (by omega) (by omega) (by omega) (by omega) (by omega)
  · have e3 : (if r ≠ 0 ∧ (1 : Int) = 0 then B + 1 else B) = B := if_neg (by omega)
    rw [e3]
    by_cases c : r = 0
    · have e2 : (if r ≠ 0 ∧ (1 : Int) = 1 then B + 1 else B) = B := if_neg (fun q => q.1 c)
      rw [e2, hfl c]
      by_cases o : endl D ≤ B
      · simp only [if_pos o]
        exact ud_sizes W D E 1 (endl D) (endl D - 1) 20 20 h (.inr rfl) (by omega) (by omega) (by omega) (by omega) (by omega) (by omega) (by omega)
      · simp only [if_neg o]
        exact ud_sizes W D E 1 B B 0 0 h (.inr rfl) h0 (by omega) h0 (by omega) (by omega) (by omega) (fun _ => ⟨rfl, rfl⟩)
    · have e2 : (if r ≠ 0 ∧ (1 : Int) = 1 then B + 1 else B) = B + 1 := if_pos ⟨c, rfl⟩
      rw [e2]
      by_cases o : endl D ≤ B
      · have o' : endl D ≤ B + 1 := by omega
        simp only [if_pos o, if_pos o']
        exact ud_sizes W D E 1 (endl D) (endl D - 1) 20 20 h (.inr rfl) (by omega) (by omega) (by omega) (by omega) (by omega) (by omega) (by omega)
      · by_cases o' : endl D ≤ B + 1
        · simp only [if_neg o, if_pos o']
          exact ud_sizes W D E 1 (endl D) B 20 _ h (.inr rfl) (by omega) (by omega) h0 (by omega) (by omega) (by omega) (by omega)
        · simp only [if_neg o, if_neg o']
          exact ud_sizes W D E 1 (B + 1) B _ _ h (.inr rfl) (by omega) (by omega) h0 (by omega) (by omega) (by omega) (by omega)

theorem jn_ok (W D E s z : Int) (h : KL W D E) (hs : Sgn s) (z0 : 0 ≤ z) (z1 : z ≤ endl D + 1) : okB W (jn W s z) = true := by
  have he := hf_b h
  exact (jn_parts W D E s z h hs z0 (by omega)).2.2.1
theorem qz_ok (W D E : Int) (h : KL W D E) : okB W (jn W 0 (qz D)) = true := by
  have hq : 0 ≤ qz D ∧ qz D < hf W := by rcases h with ⟨rfl, rfl, rfl⟩ | ⟨rfl, rfl, rfl⟩ | ⟨rfl, rfl, rfl⟩ <;> decide
  exact (jn_parts W D E 0 (qz D) h (.inl rfl) hq.1 hq.2).2.2.1

theorem add_ud (W D E a b : Int) (h : KL W D E) : UpDown W D (addF W D 2 a b) (addF W D 3 a b) := by
  have hbd := hid_b W D E h
  unfold addF
  by_cases c : cls D (siz W a) = 4 ∨ cls D (siz W b) = 4
  · rw [if_pos c, if_pos c]; exact ud_same _ _ _ _ (qz_ok W D E h) (.inl rfl)
  · rw [if_neg c, if_neg c]
    unfold opAdd numAdd
    by_cases p : cls D (siz W a) = 3 ∧ cls D (siz W b) = 3 ∧ sgn W a ≠ sgn W b
    · rw [if_pos p, if_pos p]; exact ud_same _ _ _ _ (qz_ok W D E h) (.inr (.inl rfl))
    · rw [if_neg p, if_neg p]
      by_cases q : cls D (siz W a) = 3
      · rw [if_pos q, if_pos q]; exact ud_same _ _ _ _ (jn_ok W D E _ _ h (sgn_s W a) (by omega) (by omega)) (.inl rfl)
      · rw [if_neg q, if_neg q]
        by_cases r : cls D (siz W b) = 3
        · rw [if_pos r, if_pos r]; exact ud_same _ _ _ _ (jn_ok W D E _ _ h (sgn_s W b) (by omega) (by omega)) (.inl rfl)
        · rw [if_neg r, if_neg r]
          have hf := fin2_of W D E a b h (cls_le2 D _ q (fun t => c (.inl t))) (cls_le2 D _ r (fun t => c (.inr t)))
          unfold finSum
          by_cases n : fN (sgn W a) (mant D (siz W a)) (expo D (siz W a)) (sgn W b) (mant D (siz W b)) (expo D (siz W b)) = 0
          · rw [if_pos n, if_pos n]
            by_cases t : sgn W a = sgn W b
            · rw [if_pos t, if_pos t]; exact ud_same _ _ _ _ (jn_ok W D E _ _ h (sgn_s W a) (by omega) (by omega)) (.inl rfl)
            · rw [if_neg t, if_neg t, if_pos rfl, if_neg (by decide)]; exact ud_zeros W D E h
          · rw [if_neg n, if_neg n]; exact round_ud W D E _ h hf.s _ _ _

theorem div_ud (W D E a b : Int) (h : KL W D E) : UpDown W D (divF W D 2 a b) (divF W D 3 a b) := by
  have hbd := hid_b W D E h
  have hs := sgX_s (sgn W a) (sgn W b)
  unfold divF
  by_cases c : cls D (siz W a) = 4 ∨ cls D (siz W b) = 4
  · rw [if_pos c, if_pos c]; exact ud_same _ _ _ _ (qz_ok W D E h) (.inl rfl)
  · rw [if_neg c, if_neg c]
    unfold opDiv numDiv
    by_cases p : cls D (siz W a) = cls D (siz W b) ∧ (cls D (siz W a) = 0 ∨ cls D (siz W a) = 3)
    · rw [if_pos p, if_pos p]; exact ud_same _ _ _ _ (qz_ok W D E h) (.inr (.inl rfl))
    · rw [if_neg p, if_neg p]
      by_cases q : cls D (siz W a) = 3
      · rw [if_pos q, if_pos q]; exact ud_same _ _ _ _ (jn_ok W D E _ _ h hs (by omega) (by omega)) (.inl rfl)
      · rw [if_neg q, if_neg q]
        by_cases r : cls D (siz W a) = 0 ∨ cls D (siz W b) = 3
        · rw [if_pos r, if_pos r]; exact ud_same _ _ _ _ (jn_ok W D E _ _ h hs (by omega) (by omega)) (.inl rfl)
        · rw [if_neg r, if_neg r]
          by_cases t : cls D (siz W b) = 0
          · rw [if_pos t, if_pos t]; exact ud_same _ _ _ _ (jn_ok W D E _ _ h hs (by omega) (by omega)) (.inr (.inr rfl))
          · rw [if_neg t, if_neg t]; exact round_ud W D E _ h hs _ _ _
end Go.Proofs.YtfdenbgmogojeaaDoor
