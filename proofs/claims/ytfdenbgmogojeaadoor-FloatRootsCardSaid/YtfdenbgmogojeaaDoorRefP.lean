/- The plain mathematics of the document's rounding: that shifting up first, cutting, comparing with the half and putting the bits together give the same float and flags as the code's rounding; no program; conditions as written at each lemma. -/
import Derived.Test.YtfdenbgmogojeaaDoorRefO
namespace Go.Proofs.YtfdenbgmogojeaaDoor
open Go.RowKit

/-- N * 2^e with d more digits; t of these are cut. -/
theorem up_cut (N d t : Nat) (k : Int) (hk : (t : Int) - d = k) : ((N * 2 ^ d / 2 ^ t : Nat) : Int) = cutK N k := by
  unfold cutK
  have hp := Nat.two_pow_pos t
  have hq := Nat.two_pow_pos d
  by_cases c : k ≤ 0
  · rw [if_pos c]
    obtain ⟨j, hj⟩ : ∃ j, d = t + j := ⟨d - t, by omega⟩
    rw [show (-k).toNat = j by omega, hj, Nat.pow_add, ← Nat.mul_assoc, Nat.mul_right_comm, Nat.mul_div_cancel _ hp]
  · rw [if_neg c]
    obtain ⟨j, hj⟩ : ∃ j, t = d + j := ⟨t - d, by omega⟩
    rw [show k.toNat = j by omega, hj, Nat.pow_add, ← Nat.div_div_eq_div_mul, Nat.mul_div_cancel _ hq]
/-- What is left behind the cut. -/
theorem up_rest_low (N d t : Nat) (h : t ≤ d) : N * 2 ^ d % 2 ^ t = 0 := by
  obtain ⟨j, rfl⟩ : ∃ j, d = t + j := ⟨d - t, by omega⟩
  rw [Nat.pow_add, Nat.mul_left_comm, Nat.mul_mod_right]
theorem up_rest (N d j : Nat) : N * 2 ^ d % 2 ^ (d + j) = 2 ^ d * (N % 2 ^ j) := by
  rw [Nat.pow_add, Nat.mul_comm N, Nat.mul_mod_mul_left]
theorem mod_half (N k : Nat) : N % 2 ^ (k + 1) = 2 ^ k * (N / 2 ^ k % 2) + N % 2 ^ k := by
  rw [Nat.mod_pow_succ]; omega

/-- How what is left compares with the half, where more is behind. -/
def halfF (R H : Nat) (more : Bool) : Int := if cmpN R H = 0 ∧ more = true then 1 else cmpN R H
theorem cmpN_v (A B : Nat) : cmpN A B = -1 ∨ cmpN A B = 0 ∨ cmpN A B = 1 := by
  unfold cmpN; repeat' split
  all_goals simp
theorem cmpN_mul (c A B : Nat) (hc : 0 < c) : cmpN (c * A) (c * B) = cmpN A B := by
  unfold cmpN
  have h1 : c * A < c * B ↔ A < B := Nat.mul_lt_mul_left hc
  have h2 : c * A = c * B ↔ A = B := ⟨fun h => Nat.eq_of_mul_eq_mul_left hc h, fun h => by rw [h]⟩
  simp only [h1, h2]
theorem half_rest (N d j : Nat) (more : Bool) (hj : 0 < j) :
    cutR N more (j : Int) = if N % 2 ^ j = 0 ∧ more = false then 0 else if halfF (N * 2 ^ d % 2 ^ (d + j)) (2 ^ (d + j - 1)) more = 1 then 3 else if halfF (N * 2 ^ d % 2 ^ (d + j)) (2 ^ (d + j - 1)) more = 0 then 2 else 1 := by
  obtain ⟨i, rfl⟩ : ∃ i, j = i + 1 := ⟨j - 1, by omega⟩
  have hp := Nat.two_pow_pos i
  have hq := Nat.two_pow_pos d
  have hc : cmpN (N * 2 ^ d % 2 ^ (d + (i + 1))) (2 ^ (d + (i + 1) - 1)) = cmpN (N % 2 ^ (i + 1)) (2 ^ i) := by
    rw [up_rest, show d + (i + 1) - 1 = d + i by omega, Nat.pow_add 2 d i, cmpN_mul _ _ _ hq]
  have hm := Nat.mod_lt N hp
  unfold halfF
  rw [hc, mod_half]
  unfold cutR lostB cmpN
  rw [if_neg (by omega), show (((i + 1 : Nat) : Int) - 1).toNat = i by omega]
  have hb : N / 2 ^ i % 2 = 0 ∨ N / 2 ^ i % 2 = 1 := by omega
  rcases hb with b | b <;> rw [b] <;> cases more <;> by_cases z : N % 2 ^ i = 0
  all_goals simp [z]
  all_goals (repeat' split)
  all_goals first | rfl | omega | simp_all
/-- The document's step is the code's step. -/
theorem goes_steps (N d j : Nat) (more : Bool) (mode s : Int) (K : Nat) (hj : 0 < j) (hm : Mode mode) (hs : Sgn s) (hex : ¬ (N % 2 ^ j = 0 ∧ more = false)) :
    goesF mode s (halfF (N * 2 ^ d % 2 ^ (d + j)) (2 ^ (d + j - 1)) more) (decide (K % 2 = 1)) = stepsF mode s (K : Int) (cutR N more (j : Int)) := by
  have h := half_rest N d j more hj
  rw [if_neg hex] at h
  rw [h]
  have hv : halfF (N * 2 ^ d % 2 ^ (d + j)) (2 ^ (d + j - 1)) more = -1 ∨ halfF (N * 2 ^ d % 2 ^ (d + j)) (2 ^ (d + j - 1)) more = 0 ∨ halfF (N * 2 ^ d % 2 ^ (d + j)) (2 ^ (d + j - 1)) more = 1 := by
    unfold halfF; split
    · exact .inr (.inr rfl)
    · exact cmpN_v _ _
  have hodd : ((K : Int) % 2 == 1) = decide (K % 2 = 1) := by rw [Bool.eq_iff_iff]; simp; omega
  rcases hv with v | v | v <;> rw [v] <;> rcases hm with rfl | rfl | rfl | rfl <;> rcases hs with rfl | rfl <;> simp [goesF, stepsF, hodd]
theorem exact_rest (N d t : Nat) (k : Int) (more : Bool) (hk : (t : Int) - d = k) (hmore : more = true → 0 < k) :
    (N * 2 ^ d % 2 ^ t = 0 ∧ more = false) ↔ cutR N more k = 0 := by
  by_cases c : k ≤ 0
  · have hm : more = false := by
      cases more
      · rfl
      · have := hmore rfl; omega
    have h0 := up_rest_low N d t (by omega)
    unfold cutR; rw [if_pos c]; simp [h0, hm]
  · obtain ⟨j, hj⟩ : ∃ j : Nat, k = (j : Int) := ⟨k.toNat, by omega⟩
    have ht : t = d + j := by omega
    subst ht
    subst hj
    have hp := Nat.two_pow_pos d
    have h := half_rest N d j more (by omega)
    have he : N * 2 ^ d % 2 ^ (d + j) = 0 ↔ N % 2 ^ j = 0 := by
      rw [up_rest]
      constructor
      · intro h'; rcases Nat.mul_eq_zero.1 h' with h' | h' <;> omega
      · intro h'; rw [h', Nat.mul_zero]
    rw [he, h]
    constructor
    · intro h'; rw [if_pos h']
    · intro h'
      by_cases hc : N % 2 ^ j = 0 ∧ more = false
      · exact hc
      · rw [if_neg hc] at h'
        split at h'
        · cases h'
        · split at h' <;> cases h'

/-- Where the last digit is not that of the least floats, all digits are kept. -/
theorem kept_ge (W D E : Int) (h : KL W D E) (N : Nat) (e : Int) (hN : N ≠ 0) (hq : lastF D N e ≠ low D) : hid D ≤ keptF D N e := by
  obtain ⟨hp, hd, d1, d2⟩ := hid_pow W D E h
  have hb := bl_le N hN
  have hpos := bl_pos N hN
  have hl : lastF D N e - e = (bl N : Int) - D := by unfold lastF at hq ⊢; omega
  unfold keptF cutK
  rw [hl, hp]
  split
  · rename_i c
    have h1 : 2 ^ (D.toNat - 1) ≤ N * 2 ^ (-((bl N : Int) - D)).toNat := by
      calc 2 ^ (D.toNat - 1) = 2 ^ (bl N - 1) * 2 ^ (-((bl N : Int) - D)).toNat := by rw [← Nat.pow_add]; congr 1; omega
        _ ≤ N * 2 ^ (-((bl N : Int) - D)).toNat := Nat.mul_le_mul_right _ hb
    exact Int.ofNat_le.2 h1
  · rename_i c
    have h1 : 2 ^ (D.toNat - 1) ≤ N / 2 ^ ((bl N : Int) - D).toNat := by
      rw [Nat.le_div_iff_mul_le (Nat.two_pow_pos _), ← Nat.pow_add]
      exact Nat.le_trans (Nat.pow_le_pow_right (by decide) (by omega)) hb
    exact Int.ofNat_le.2 h1

/-- The end of the document's rounding: digits without a carry, their exponent. -/
def dropK (D : Int) (K : Nat) : Nat := if (bl K : Int) > D then K / 2 else K
def dropQ (D q : Int) (K : Nat) : Int := if (bl K : Int) > D then q + 1 else q
theorem bl_hid (W D E : Int) (h : KL W D E) (K : Nat) (hK : (K : Int) ≤ 2 * hid D) :
    ((bl K : Int) > D → (K : Int) = 2 * hid D) ∧ (hid D ≤ (K : Int) → (K : Int) < 2 * hid D → (bl K : Int) = D) ∧ ((K : Int) < hid D → (bl K : Int) < D) ∧ (bl K : Int) ≤ D + 1 ∧ ((K : Int) = 2 * hid D → (bl K : Int) = D + 1) := by
  obtain ⟨hp, hd, d1, d2⟩ := hid_pow W D E h
  have hpp := Nat.two_pow_pos (D.toNat - 1)
  rw [hp] at hK ⊢
  generalize hP : 2 ^ (D.toNat - 1) = P at *
  have b1 : K < 2 ^ (D.toNat - 1) → bl K ≤ D.toNat - 1 := bl_mono_le K _
  have b2 : K < 2 ^ D.toNat → bl K ≤ D.toNat := bl_mono_le K _
  have b3 : P ≤ K → K < 2 * P → bl K = D.toNat := fun x y => bl_eq K _ (by omega) (by rw [hP]; exact x) (by rw [hd]; exact y)
  have e1 : (2 : Nat) ^ (D.toNat + 1) = 2 * (2 * P) := by rw [Nat.pow_succ, hd]; omega
  have b4 : K = 2 * P → bl K = D.toNat + 1 := fun x => bl_eq K _ (by omega) (by rw [Nat.add_sub_cancel, hd]; omega) (by rw [e1]; omega)
  rw [hP] at b1
  rw [hd] at b2
  refine ⟨?_, ?_, ?_, ?_, ?_⟩
  · intro x
    rcases Nat.lt_or_ge K (2 * P) with c | c
    · have := b2 c; omega
    · omega
  · intro x y; have := b3 (by omega) (by omega); omega
  · intro x; have := b1 (by omega); omega
  · rcases Nat.lt_or_ge K (2 * P) with c | c
    · have := b2 c; omega
    · have := b4 (by omega); omega
  · intro x; have := b4 (by omega); omega
theorem tail_math (W D E : Int) (h : KL W D E) (K : Nat) (q : Int) (hK : (K : Int) ≤ 2 * hid D) (hq : low D ≤ q) (hg : hid D ≤ (K : Int) ∨ q = low D) :
    (dropQ D q K - low D) * hid D + (dropK D K : Int) = (q - low D) * hid D + K ∧
    (endl D ≤ (q - low D) * hid D + K ↔ (bl (dropK D K) : Int) + dropQ D q K > biasF D + 1) ∧
    ((bl (dropK D K) : Int) < D → dropQ D q K = low D ∧ (dropK D K : Int) < hid D) ∧
    (¬ (bl (dropK D K) : Int) < D → hid D ≤ (dropK D K : Int)) ∧
    (bl (dropK D K) : Int) ≤ D ∧ (dropK D K : Int) < 2 * hid D ∧ low D ≤ dropQ D q K ∧ dropQ D q K ≤ q + 1 := by
  obtain ⟨a1, a2, a3, a4, a5⟩ := bl_hid W D E h K hK
  have hh : 0 < hid D ∧ endl D = (biasF D + 2 - D - low D + 1) * hid D ∧ D + low D ≤ biasF D + 1 ∧ 11 ≤ D := by
    rcases h with ⟨rfl, rfl, rfl⟩ | ⟨rfl, rfl, rfl⟩ | ⟨rfl, rfl, rfl⟩ <;> decide
  obtain ⟨h0, he, hl, hd⟩ := hh
  have key : ∀ (X : Nat) (x : Int), hid D ≤ (X : Int) → (X : Int) < 2 * hid D → low D ≤ x → (bl X : Int) = D → (endl D ≤ (x - low D) * hid D + X ↔ (bl X : Int) + x > biasF D + 1) := by
    intro X x x1 x2 x3 x4
    rw [x4, he]
    constructor
    · intro hge
      rcases Int.lt_or_le (biasF D + 1) (D + x) with c | c
      · exact c
      · exfalso
        have : (x - low D + 2) * hid D ≤ (biasF D + 2 - D - low D + 1) * hid D := Int.mul_le_mul_of_nonneg_right (by omega) (by omega)
        have e2 : (x - low D + 2) * hid D = (x - low D) * hid D + 2 * hid D := by rw [Int.add_mul]
        omega
    · intro hgt
      have : (biasF D + 2 - D - low D + 1) * hid D ≤ (x - low D + 1) * hid D := Int.mul_le_mul_of_nonneg_right (by omega) (by omega)
      have e2 : (x - low D + 1) * hid D = (x - low D) * hid D + 1 * hid D := by rw [Int.add_mul]
      omega
  unfold dropK dropQ
  by_cases c : (bl K : Int) > D
  · have hK2 := a1 c
    rw [if_pos c, if_pos c]
    have hh : ((K / 2 : Nat) : Int) = hid D := by omega
    obtain ⟨b1, b2, b3, b4, b5⟩ := bl_hid W D E h (K / 2) (by omega)
    have hb := b2 (by omega) (by omega)
    have e1 : (q + 1 - low D) * hid D = (q - low D) * hid D + 1 * hid D := by rw [← Int.add_mul]; congr 1; omega
    have hkey := key (K / 2) (q + 1) (by omega) (by omega) (by omega) hb
    rw [e1] at hkey ⊢
    refine ⟨by omega, ?_, by omega, by omega, by omega, by omega, by omega, by omega⟩
    rw [← hkey, hh, hK2]
    constructor <;> intro <;> omega
  · rw [if_neg c, if_neg c]
    have hlt : (K : Int) < 2 * hid D := by
      rcases Int.lt_or_le (K : Int) (2 * hid D) with x | x
      · exact x
      · exfalso; have := a5 (by omega); omega
    refine ⟨rfl, ?_, ?_, ?_, by omega, hlt, hq, by omega⟩
    · by_cases g : hid D ≤ (K : Int)
      · exact key K q g hlt hq (a2 g hlt)
      · have hql : q = low D := by rcases hg with x | x <;> omega
        have hb := a3 (by omega)
        subst hql
        rw [Int.sub_self, Int.zero_mul, he]
        have : 1 * hid D ≤ (biasF D + 2 - D - low D + 1) * hid D := Int.mul_le_mul_of_nonneg_right (by omega) (by omega)
        constructor <;> intro <;> omega
    · intro g
      have : ¬ hid D ≤ (K : Int) := fun x => by have := a2 x hlt; omega
      rcases hg with x | x
      · exact absurd x this
      · exact ⟨x, by omega⟩
    · intro g
      rcases Int.lt_or_le (K : Int) (hid D) with x | x
      · exact absurd (a3 x) g
      · exact x
end Go.Proofs.YtfdenbgmogojeaaDoor
