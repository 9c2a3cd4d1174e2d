/- The plain mathematics of sums, differences and comparisons digit by digit, and numbers as slices of binary digits in memory; no program; conditions as written at each lemma. -/
import Derived.Test.YtfdenbgmogojeaaDoorRefJ
namespace Go.Proofs.YtfdenbgmogojeaaDoor
open Go.RowKit

/-- A binary digit of a number. -/
def bd (M i : Nat) : Nat := M / 2 ^ i % 2
theorem bd_le (M i : Nat) : bd M i ≤ 1 := by unfold bd; omega
theorem bd_beyond (M L i : Nat) (h : M < 2 ^ L) (hi : L ≤ i) : bd M i = 0 := by
  unfold bd
  rw [Nat.div_eq_of_lt (Nat.lt_of_lt_of_le h (Nat.pow_le_pow_right (by decide) hi))]
theorem mod_succ (M i : Nat) : M % 2 ^ (i + 1) = 2 ^ i * bd M i + M % 2 ^ i := by
  unfold bd; rw [Nat.mod_pow_succ]; omega
theorem div_two (M i : Nat) : M / 2 ^ i = 2 * (M / 2 ^ (i + 1)) + bd M i := by
  unfold bd; rw [Nat.pow_succ, ← Nat.div_div_eq_div_mul]; omega
theorem parts (M i : Nat) : M = 2 ^ i * (M / 2 ^ i) + M % 2 ^ i := (Nat.div_add_mod M (2 ^ i)).symm

/-- What a sum carries from its i lowest digits. -/
def carr (A B i : Nat) : Nat := (A % 2 ^ i + B % 2 ^ i) / 2 ^ i
theorem carr_zero (A B : Nat) : carr A B 0 = 0 := by simp [carr, Nat.mod_one]
theorem carr_le (A B i : Nat) : carr A B i ≤ 1 := by
  have hp := Nat.two_pow_pos i
  have h1 := Nat.mod_lt A hp
  have h2 := Nat.mod_lt B hp
  unfold carr
  have : (A % 2 ^ i + B % 2 ^ i) / 2 ^ i < 2 := by
    rw [Nat.div_lt_iff_lt_mul hp]; omega
  omega
theorem carr_succ (A B i : Nat) : carr A B (i + 1) = (bd A i + bd B i + carr A B i) / 2 := by
  have hp := Nat.two_pow_pos i
  unfold carr
  rw [mod_succ, mod_succ, Nat.pow_succ, ← Nat.div_div_eq_div_mul]
  congr 1
  rw [show 2 ^ i * bd A i + A % 2 ^ i + (2 ^ i * bd B i + B % 2 ^ i) = (A % 2 ^ i + B % 2 ^ i) + 2 ^ i * (bd A i + bd B i) by rw [Nat.mul_add]; omega, Nat.add_mul_div_left _ _ hp]
  omega
theorem sum_digit (A B i : Nat) : (bd A i + bd B i + carr A B i) % 2 = bd (A + B) i := by
  have hp := Nat.two_pow_pos i
  have e : (A + B) / 2 ^ i = (A / 2 ^ i + B / 2 ^ i) + carr A B i := by
    have e1 : A + B = (A % 2 ^ i + B % 2 ^ i) + 2 ^ i * (A / 2 ^ i + B / 2 ^ i) := by
      have := parts A i; have := parts B i; rw [Nat.mul_add]; omega
    unfold carr
    rw [e1, Nat.add_mul_div_left _ _ hp]; omega
  unfold bd
  rw [e]; omega
theorem sum_end (A B LA LB i : Nat) (ha : A < 2 ^ LA) (hb : B < 2 ^ LB) (h1 : LA ≤ i) (h2 : LB ≤ i) (hc : carr A B i = 0) : A + B < 2 ^ i := by
  have hp := Nat.two_pow_pos i
  have e1 : A < 2 ^ i := Nat.lt_of_lt_of_le ha (Nat.pow_le_pow_right (by decide) h1)
  have e2 : B < 2 ^ i := Nat.lt_of_lt_of_le hb (Nat.pow_le_pow_right (by decide) h2)
  unfold carr at hc
  rw [Nat.mod_eq_of_lt e1, Nat.mod_eq_of_lt e2] at hc
  exact (Nat.div_eq_zero_iff_lt hp).1 hc
theorem carr_far (A B LA LB i : Nat) (ha : A < 2 ^ LA) (hb : B < 2 ^ LB) (h1 : LA < i) (h2 : LB < i) : carr A B i = 0 := by
  obtain ⟨j, rfl⟩ : ∃ j, i = j + 1 := ⟨i - 1, by omega⟩
  have hp := Nat.two_pow_pos j
  have e1 : A < 2 ^ j := Nat.lt_of_lt_of_le ha (Nat.pow_le_pow_right (by decide) (by omega))
  have e2 : B < 2 ^ j := Nat.lt_of_lt_of_le hb (Nat.pow_le_pow_right (by decide) (by omega))
  unfold carr
  have : (2 : Nat) ^ (j + 1) = 2 * 2 ^ j := by rw [Nat.pow_succ, Nat.mul_comm]
  rw [Nat.mod_eq_of_lt (by omega), Nat.mod_eq_of_lt (by omega)]
  exact Nat.div_eq_of_lt (by omega)

/-- What a difference owes behind its i lowest digits. -/
def owe (A B i : Nat) : Nat := if A % 2 ^ i < B % 2 ^ i then 1 else 0
theorem owe_zero (A B : Nat) : owe A B 0 = 0 := by simp [owe, Nat.mod_one]
theorem owe_le (A B i : Nat) : owe A B i ≤ 1 := by unfold owe; split <;> omega
theorem owe_succ (A B i : Nat) : owe A B (i + 1) = 1 - (2 + bd A i - bd B i - owe A B i) / 2 := by
  have hp := Nat.two_pow_pos i
  have h1 := Nat.mod_lt A hp
  have h2 := Nat.mod_lt B hp
  have a1 := bd_le A i
  have a2 := bd_le B i
  unfold owe
  rw [mod_succ, mod_succ]
  have ca : bd A i = 0 ∨ bd A i = 1 := by omega
  have cb : bd B i = 0 ∨ bd B i = 1 := by omega
  rcases ca with c | c <;> rcases cb with d | d <;> rw [c, d] <;> (repeat' split) <;> omega
theorem diff_digit (A B i : Nat) (h : B ≤ A) : (2 + bd A i - bd B i - owe A B i) % 2 = bd (A - B) i := by
  have hp := Nat.two_pow_pos i
  have h1 := Nat.mod_lt A hp
  have h2 := Nat.mod_lt B hp
  have pa := parts A i
  have pb := parts B i
  have hq : B / 2 ^ i ≤ A / 2 ^ i := Nat.div_le_div_right h
  have a1 := bd_le A i
  have a2 := bd_le B i
  have o1 := owe_le A B i
  have e : (A - B) / 2 ^ i = A / 2 ^ i - B / 2 ^ i - owe A B i ∧ B / 2 ^ i + owe A B i ≤ A / 2 ^ i := by
    unfold owe
    split
    · rename_i c
      have hlt : B / 2 ^ i < A / 2 ^ i := by
        rcases Nat.lt_or_ge (B / 2 ^ i) (A / 2 ^ i) with h' | h'
        · exact h'
        · have : A / 2 ^ i = B / 2 ^ i := by omega
          rw [this] at pa; omega
      obtain ⟨d, hd⟩ : ∃ d, A / 2 ^ i = B / 2 ^ i + 1 + d := ⟨A / 2 ^ i - B / 2 ^ i - 1, by omega⟩
      refine ⟨?_, by omega⟩
      have e1 : A - B = (2 ^ i + A % 2 ^ i - B % 2 ^ i) + 2 ^ i * d := by
        rw [hd, Nat.mul_add, Nat.mul_add] at pa; omega
      rw [e1, Nat.add_mul_div_left _ _ hp, Nat.div_eq_of_lt (by omega)]; omega
    · rename_i c
      obtain ⟨d, hd⟩ : ∃ d, A / 2 ^ i = B / 2 ^ i + d := ⟨A / 2 ^ i - B / 2 ^ i, by omega⟩
      refine ⟨?_, by omega⟩
      have e1 : A - B = (A % 2 ^ i - B % 2 ^ i) + 2 ^ i * d := by
        rw [hd, Nat.mul_add] at pa; omega
      rw [e1, Nat.add_mul_div_left _ _ hp, Nat.div_eq_of_lt (by omega)]; omega
  have ea : bd A i = A / 2 ^ i % 2 := rfl
  have eb : bd B i = B / 2 ^ i % 2 := rfl
  have ec : bd (A - B) i = (A - B) / 2 ^ i % 2 := rfl
  rw [ec, e.1]
  have := e.2
  omega

/-- How two numbers compare. -/
def cmpN (A B : Nat) : Int := if A < B then -1 else if A = B then 0 else 1
theorem cmp_step (A B i : Nat) (h : A / 2 ^ (i + 1) = B / 2 ^ (i + 1)) (hd : bd A i ≠ bd B i) : (bd A i : Int) - (bd B i : Int) = cmpN A B := by
  have pa := div_two A i
  have pb := div_two B i
  have a1 := bd_le A i
  have a2 := bd_le B i
  unfold cmpN
  have hlt : A / 2 ^ i < B / 2 ^ i → A < B := fun h' => by
    rcases Nat.lt_or_ge A B with c | c
    · exact c
    · have := Nat.div_le_div_right (c := 2 ^ i) c; omega
  have hgt : B / 2 ^ i < A / 2 ^ i → B < A := fun h' => by
    rcases Nat.lt_or_ge B A with c | c
    · exact c
    · have := Nat.div_le_div_right (c := 2 ^ i) c; omega
  rw [h] at pa
  by_cases c : bd A i < bd B i
  · rw [if_pos (hlt (by omega))]; omega
  · have := hgt (by omega)
    rw [if_neg (by omega), if_neg (by omega)]; omega
theorem cmp_next (A B i : Nat) (h : A / 2 ^ (i + 1) = B / 2 ^ (i + 1)) (hd : bd A i = bd B i) : A / 2 ^ i = B / 2 ^ i := by
  rw [div_two A i, div_two B i, h, hd]

/-! Digits as values. -/
theorem dg_at (n j i : Nat) (h : i < j) : (dg n j)[i]? = some (.int .u8 ((n / 2 ^ i % 2 : Nat) : Int)) := by
  unfold dg; rw [List.getElem?_map, List.getElem?_range h]; rfl
theorem dg_take (M n L : Nat) (h : n ≤ L) : (dg M L).take n = dg M n := by
  apply List.ext_getElem?
  intro i
  by_cases c : i < n
  · rw [List.getElem?_take_of_lt c, dg_at _ _ _ (by omega), dg_at _ _ _ c]
  · rw [List.getElem?_eq_none (by rw [List.length_take, dg_length]; omega), List.getElem?_eq_none (by rw [dg_length]; omega)]
theorem dg_down (M n L : Nat) : (dg M L).drop n = dg (M / 2 ^ n) (L - n) := by
  apply List.ext_getElem?
  intro i
  rw [List.getElem?_drop]
  by_cases h : n + i < L
  · rw [dg_at _ _ _ h, dg_at _ _ _ (by omega), Nat.pow_add, ← Nat.div_div_eq_div_mul]
  · rw [List.getElem?_eq_none (by rw [dg_length]; omega), List.getElem?_eq_none (by rw [dg_length]; omega)]
theorem dg_up (M n L : Nat) : List.replicate n (.int .u8 0) ++ dg M L = dg (M * 2 ^ n) (n + L) := by
  apply List.ext_getElem?
  intro i
  by_cases c : i < n
  · rw [List.getElem?_append_left (by simpa using c), dg_at _ _ _ (by omega), List.getElem?_replicate, if_pos c]
    obtain ⟨d, rfl⟩ : ∃ d, n = i + (d + 1) := ⟨n - i - 1, by omega⟩
    rw [Nat.pow_add, Nat.pow_succ, show M * (2 ^ i * (2 ^ d * 2)) = 2 ^ i * (M * 2 ^ d * 2) by rw [Nat.mul_left_comm, Nat.mul_assoc], Nat.mul_div_cancel_left _ (Nat.two_pow_pos i), Nat.mul_mod_left]
    rfl
  · rw [List.getElem?_append_right (by simpa using c)]
    simp only [List.length_replicate]
    by_cases h : i - n < L
    · rw [dg_at _ _ _ h, dg_at _ _ _ (by omega)]
      obtain ⟨d, rfl⟩ : ∃ d, i = n + d := ⟨i - n, by omega⟩
      rw [Nat.pow_add, ← Nat.div_div_eq_div_mul, Nat.mul_div_cancel _ (Nat.two_pow_pos n), show n + d - n = d by omega]
    · rw [List.getElem?_eq_none (by rw [dg_length]; omega), List.getElem?_eq_none (by rw [dg_length]; omega)]
theorem dg_u8 (M L : Nat) : ∀ v, v ∈ dg M L → ∃ d, v = .int .u8 d := fun v hv => by
  unfold dg at hv; rw [List.mem_map] at hv; obtain ⟨i, _, rfl⟩ := hv; exact ⟨_, rfl⟩
theorem bl_of_top (M n : Nat) (h1 : M < 2 ^ n) (h2 : 0 < n → bd M (n - 1) = 1) : bl M = n := by
  rcases Nat.eq_zero_or_pos n with e | e
  · subst e
    have : M = 0 := by simpa using h1
    subst this; rfl
  · have h := h2 e
    have hp := Nat.two_pow_pos (n - 1)
    have hge : 2 ^ (n - 1) ≤ M := by
      rcases Nat.lt_or_ge M (2 ^ (n - 1)) with c | c
      · rw [bd_beyond M (n - 1) (n - 1) c (Nat.le_refl _)] at h; cases h
      · exact c
    exact bl_eq M n (by omega) hge h1
theorem bl_up (M n : Nat) (h : M ≠ 0) : bl (M * 2 ^ n) = n + bl M := by
  have hp := Nat.two_pow_pos n
  have h1 : 2 ^ n ≤ M * 2 ^ n := Nat.le_mul_of_pos_left _ (by omega)
  rw [bl_shr _ n h1, Nat.mul_div_cancel _ hp]
theorem bl_down (M n : Nat) (h : n < bl M) : bl (M / 2 ^ n) = bl M - n := by
  have hM : M ≠ 0 := by intro e; subst e; simp [bl] at h
  have h1 := bl_le M hM
  have h2 : 2 ^ n ≤ M := Nat.le_trans (Nat.pow_le_pow_right (by decide) (by omega)) h1
  have := bl_shr M n h2
  omega
theorem div_far (M n : Nat) (h : bl M ≤ n) : M / 2 ^ n = 0 :=
  Nat.div_eq_of_lt (Nat.lt_of_lt_of_le (bl_lt M) (Nat.pow_le_pow_right (by decide) h))
theorem bl_one : bl 1 = 1 := by decide

/-! The slice v holds L binary digits of the number M. -/
def RN (w : World) (v : Value) (L M : Nat) : Prop := w.ownsRow 0 5 1 v L (dg M L)
theorem own_keep {w w' : World} {v : Value} {L b : Nat} {xs : List Value} (h : w.ownsRow b 5 1 v L xs) (hb : Below w.heap.size w w') : w'.ownsRow b 5 1 v L xs := by
  refine ⟨h.1, ?_⟩
  rcases h.2 with h | ⟨g, cap, cur, h1, h2, h3, h4⟩
  · exact .inl h
  · refine .inr ⟨g, cap, cur, h1, h2, ?_, h4⟩
    have hg : g < w.heap.size := (Array.getElem?_eq_some_iff.1 h3).1
    rw [hb.block g hg]; exact h3
theorem RN.keep {w w' : World} {v : Value} {L M : Nat} (h : RN w v L M) (hb : Below w.heap.size w w') : RN w' v L M := own_keep h hb
theorem own_base {w : World} {b c : Nat} {e : TypeId} {s : Nat} {v : Value} {n : Nat} {xs : List Value} (h : w.ownsRow b e s v n xs) (hc : c ≤ b) : w.ownsRow c e s v n xs := by
  refine ⟨h.1, ?_⟩
  rcases h.2 with h | ⟨g, cap, cur, h1, h2, h3⟩
  · exact .inl h
  · exact .inr ⟨g, cap, cur, h1, by omega, h3⟩
theorem RN.of {w : World} {v : Value} {b L M : Nat} (h : w.ownsRow b 5 1 v L (dg M L)) : RN w v L M := own_base h (Nat.zero_le _)
theorem RN.slice {w : World} {v : Value} {L M : Nat} (h : RN w v L M) : ∃ p cap, v = .slice p L cap := by
  rcases h.2 with ⟨hv, h0⟩ | ⟨g, cap, cur, h1, _⟩
  · subst h0; exact ⟨none, 0, hv⟩
  · exact ⟨some ⟨g, 0, none⟩, cap, h1⟩
theorem RN.cells {w : World} {p : Option Addr} {L M cap : Nat} (h : RN w (.slice p L cap) L M) (h0 : 0 < L) :
    ∃ g, p = some ⟨g, 0, none⟩ ∧ L ≤ cap ∧ ∀ i, i < L → w.cell? ⟨g, i, none⟩ = some (.int .u8 (bd M i : Int)) := by
  obtain ⟨g, cap', he, _, hc, hx⟩ := own_cells h h0
  cases he
  exact ⟨g, rfl, hc, fun i hi => hx i _ (dg_at _ _ _ hi)⟩
end Go.Proofs.YtfdenbgmogojeaaDoor
