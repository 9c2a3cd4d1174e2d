/- Mathematics: what is written of statements in both forms. -/
import Derived.Test.YtdandmbgdndnjaaGreatDoorWrtB
import Derived.Test.YtdandmbgdndnjaaGreatDoorShelfW
namespace Go.Proofs.YtdandmbgdndnjaaGreatDoor
open Go.RowKit

/-- A label in digits, nothing for 0. -/
def dgP (n : Nat) : List UInt8 := if n = 0 then [] else Lib.decDigits n
theorem dec_len : ∀ (k n : Nat), n < 10 ^ (k + 1) → (Lib.decDigits n).length ≤ k + 1
  | 0, n, h => by
    rw [Lib.decDigits, dif_pos (by omega)]; simp
  | k + 1, n, h => by
    rw [Lib.decDigits]
    split
    · simp
    · have := dec_len k (n / 10) (by rw [Nat.pow_succ] at h; omega)
      rw [List.length_append]
      simp only [List.length_cons, List.length_nil]
      omega
theorem dgP_len {n : Nat} (h : n ≤ 99999) : (dgP n).length ≤ 5 := by
  unfold dgP
  split
  · simp
  · exact dec_len 4 n (by omega)
theorem dgP_step {n : Nat} (h : n ≠ 0) : dgP n = dgP (n / 10) ++ [UInt8.ofNat (48 + n % 10)] := by
  unfold dgP
  rw [if_neg h, Lib.decDigits]
  split
  · rw [if_pos (by omega), show n % 10 = n by omega]; rfl
  · rw [if_neg (by omega)]
/-- What is written of a text in the new form. -/
def nwP (L : List UInt8) : List UInt8 := if 100 < L.length then L.take 100 ++ [38, 10, 38] ++ nwP (L.drop 100) else L ++ [10]
  termination_by L.length
  decreasing_by rw [List.length_drop]; omega
theorem nwP_go {L : List UInt8} (h : 100 < L.length) : nwP L = L.take 100 ++ [38, 10, 38] ++ nwP (L.drop 100) := by rw [nwP, if_pos h]
theorem nwP_end {L : List UInt8} (h : ¬ 100 < L.length) : nwP L = L ++ [10] := by rw [nwP, if_neg h]
/-- What is written of a text in the old form, behind a front. -/
def goL : List UInt8 := [32, 32, 32, 32, 32, 38]
def owP (hd L : List UInt8) : List UInt8 := if 66 < L.length then hd ++ L.take 66 ++ [10] ++ owP goL (L.drop 66) else hd ++ L ++ [10]
  termination_by L.length
  decreasing_by rw [List.length_drop]; omega
theorem owP_go {hd L : List UInt8} (h : 66 < L.length) : owP hd L = hd ++ L.take 66 ++ [10] ++ owP goL (L.drop 66) := by rw [owP, if_pos h]
theorem owP_end {hd L : List UInt8} (h : ¬ 66 < L.length) : owP hd L = hd ++ L ++ [10] := by rw [owP, if_neg h]
theorem nwP_len : ∀ (n : Nat) (L : List UInt8), L.length ≤ n → (nwP L).length ≤ 2 * L.length + 1
  | 0, L, h => by rw [nwP_end (by omega)]; simp; omega
  | n + 1, L, h => by
    by_cases h1 : 100 < L.length
    · have := nwP_len n (L.drop 100) (by rw [List.length_drop]; omega)
      rw [nwP_go h1]
      simp only [List.length_append, List.length_take, List.length_drop, List.length_cons, List.length_nil] at this ⊢
      omega
    · rw [nwP_end h1]; simp; omega
theorem owP_len : ∀ (n : Nat) (hd L : List UInt8), L.length ≤ n → (owP hd L).length ≤ 2 * L.length + hd.length + 1
  | 0, hd, L, h => by rw [owP_end (by omega)]; simp; omega
  | n + 1, hd, L, h => by
    by_cases h1 : 66 < L.length
    · have := owP_len n goL (L.drop 66) (by rw [List.length_drop]; omega)
      rw [owP_go h1]
      simp only [List.length_append, List.length_take, List.length_drop, List.length_cons, List.length_nil, goL] at this ⊢
      omega
    · rw [owP_end h1]; simp; omega
/-- What is written of a statement, in both forms. -/
def txN (x : Ln) : List UInt8 := if 0 < x.1 then dgP x.1.toNat ++ [32] ++ x.2.1.data.toList else x.2.1.data.toList
def hdP (n : Nat) : List UInt8 := dgP n ++ List.replicate (6 - (dgP n).length) 32
def nwS (x : Ln) : List UInt8 := nwP (txN x)
def owS (x : Ln) : List UInt8 := owP (hdP x.1.toNat) x.2.1.data.toList
theorem okL_bounds {x : Ln} (h : okL x = true) : 0 ≤ x.1 ∧ x.1 ≤ 99999 ∧ x.2.1.size ≤ 8000 := by
  unfold okL at h
  simp only [Bool.and_eq_true, decide_eq_true_eq] at h
  exact ⟨h.1.1.1, h.1.1.2, h.1.2⟩
theorem txN_len {x : Ln} (h : okL x = true) : (txN x).length ≤ 8006 := by
  obtain ⟨h0, h1, h2⟩ := okL_bounds h
  have := dgP_len (n := x.1.toNat) (by omega)
  unfold txN
  split
  · simp only [List.length_append, List.length_cons, List.length_nil, data_len]; omega
  · rw [data_len]; omega
theorem nwS_len {x : Ln} (h : okL x = true) : (nwS x).length ≤ 20000 := by
  have := nwP_len _ (txN x) (Nat.le_refl _)
  have := txN_len h
  unfold nwS; omega
theorem hdP_len {n : Nat} (h : n ≤ 99999) : (hdP n).length = 6 := by
  have := dgP_len h
  unfold hdP
  rw [List.length_append, List.length_replicate]; omega
theorem owS_len {x : Ln} (h : okL x = true) : (owS x).length ≤ 20000 := by
  obtain ⟨h0, h1, h2⟩ := okL_bounds h
  have := owP_len _ (hdP x.1.toNat) x.2.1.data.toList (Nat.le_refl _)
  rw [hdP_len (by omega), data_len] at this
  unfold owS; omega
/-- What is answered of statements: a text and an error. -/
def wrA (ok : Bool) (B : List UInt8) : List UInt8 × Nat := if ok = false then ([], 2) else if 8000 < B.length then ([], 4) else (B, 0)
end Go.Proofs.YtdandmbgdndnjaaGreatDoor
