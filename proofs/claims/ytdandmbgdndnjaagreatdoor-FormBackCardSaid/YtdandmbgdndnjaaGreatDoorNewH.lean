/- Mathematics for FormBack: a label in digits ahead of a text. -/
import Derived.Test.YtdandmbgdndnjaaGreatDoorNewG
import Derived.Test.YtdandmbgdndnjaaGreatDoorWrtC
namespace Go.Proofs.YtdandmbgdndnjaaGreatDoor
open Go.RowKit

theorem dig_c : ∀ d : Fin 10, dgL.contains (UInt8.ofNat (48 + d.val)) = true := by decide
theorem dec_digs : ∀ (k n : Nat), n ≤ k → ∀ c ∈ Lib.decDigits n, dgL.contains c = true
  | 0, n, h, c, hc => by
    rw [Lib.decDigits, dif_pos (by omega)] at hc
    rw [List.mem_singleton.1 hc]
    exact dig_c ⟨n, by omega⟩
  | k + 1, n, h, c, hc => by
    rw [Lib.decDigits] at hc
    split at hc
    · rename_i h1
      rw [List.mem_singleton.1 hc]
      exact dig_c ⟨n, h1⟩
    · rcases List.mem_append.1 hc with hc | hc
      · exact dec_digs k (n / 10) (by omega) c hc
      · rw [List.mem_singleton.1 hc]
        exact dig_c ⟨n % 10, by omega⟩
theorem dec_ne (n : Nat) : Lib.decDigits n ≠ [] := by
  rw [Lib.decDigits]
  split
  · simp
  · simp
theorem dR_label {D X : List UInt8} (hd : ∀ c ∈ D, dgL.contains c = true) : dR (D ++ 32 :: X) = 32 :: X := by
  unfold dR Lib.trimLeftS
  rw [List.dropWhile_append_of_pos hd, List.dropWhile_cons, if_neg (by decide)]
theorem cutP_label {D X : List UInt8} (hd : ∀ c ∈ D, dgL.contains c = true) (hD : D ≠ []) (hX : Lib.trimLeftB X 32 = X) : cutP (D ++ 32 :: X) = (D, X) := by
  have e := dR_label (X := X) hd
  have hl : 0 < D.length := List.length_pos_iff.2 hD
  have hp : Lib.hasPrefix (32 :: X) [32] = true := by unfold Lib.hasPrefix; simp [List.isPrefixOf]
  have ht : Lib.trimLeftB (32 :: X) 32 = X := by
    unfold Lib.trimLeftB at hX ⊢
    rw [List.dropWhile_cons, if_pos (by decide), hX]
  unfold cutP
  rw [e, if_neg, ht]
  · rw [List.length_append, Nat.add_sub_cancel, List.take_left']
    rfl
  · rw [hp]
    rintro (h | h)
    · rw [List.length_append] at h; omega
    · cases h
theorem digV : ∀ d : Fin 10, Lib.digitVal (UInt8.ofNat (48 + d.val)) = some d.val := by decide
theorem decFrom_app : ∀ (A : List UInt8) (acc n d : Nat) (b : UInt8), Lib.decFrom acc A = some n → Lib.digitVal b = some d → Lib.decFrom acc (A ++ [b]) = some (n * 10 + d)
  | [], acc, n, d, b, h, hd => by
    cases h
    simp [Lib.decFrom, hd]
  | a :: A, acc, n, d, b, h, hd => by
    rw [List.cons_append]
    unfold Lib.decFrom at h ⊢
    cases ha : Lib.digitVal a with
    | none => rw [ha] at h; cases h
    | some e =>
      rw [ha] at h
      exact decFrom_app A _ n d b h hd
theorem decFrom_dec : ∀ (k n : Nat), n ≤ k → Lib.decFrom 0 (Lib.decDigits n) = some n
  | 0, n, h => by
    rw [Lib.decDigits, dif_pos (by omega)]
    exact (decFrom_app [] 0 0 n _ rfl (digV ⟨n, by omega⟩)).trans (by rw [Nat.zero_mul, Nat.zero_add])
  | k + 1, n, h => by
    rw [Lib.decDigits]
    split
    · rename_i h1
      exact (decFrom_app [] 0 0 n _ rfl (digV ⟨n, h1⟩)).trans (by rw [Nat.zero_mul, Nat.zero_add])
    · have h2 := decFrom_app (Lib.decDigits (n / 10)) 0 (n / 10) (n % 10) _ (decFrom_dec k (n / 10) (by omega)) (digV ⟨n % 10, by omega⟩)
      rw [h2]
      congr 1
      omega
theorem dig_ne : ∀ d : Fin 10, d.val ≠ 0 → UInt8.ofNat (48 + d.val) ≠ 48 := by decide
theorem dec_head : ∀ (k n : Nat), n ≤ k → n ≠ 0 → ∃ d R, Lib.decDigits n = d :: R ∧ d ≠ 48
  | 0, n, h, h0 => by omega
  | k + 1, n, h, h0 => by
    rw [Lib.decDigits]
    split
    · rename_i h1
      exact ⟨_, [], rfl, dig_ne ⟨n, h1⟩ h0⟩
    · obtain ⟨d, R, e, hd⟩ := dec_head k (n / 10) (by omega) (by omega)
      rw [e]
      exact ⟨d, _, rfl, hd⟩
theorem dw_nil : ∀ (L : List UInt8), (∀ c ∈ L, dgL.contains c = true) → L.dropWhile (dgL.contains ·) = []
  | [], _ => rfl
  | c :: L, h => by
    rw [List.dropWhile_cons, if_pos (h c List.mem_cons_self)]
    exact dw_nil L (fun d hd => h d (List.mem_cons_of_mem _ hd))
theorem lbP_dec {n : Nat} (h0 : n ≠ 0) (h9 : n ≤ 99999) : lbP (Lib.decDigits n) = some (n : Int) := by
  obtain ⟨d, R, e, hd⟩ := dec_head n n (Nat.le_refl n) h0
  have hl := dec_len 4 n (by omega)
  have hg := dec_digs n n (Nat.le_refl n)
  have ha := decFrom_dec n n (Nat.le_refl n)
  have ht : Lib.trimLeftB (Lib.decDigits n) 48 = Lib.decDigits n := by
    rw [e]; unfold Lib.trimLeftB
    rw [List.dropWhile_cons, if_neg (by simpa using hd)]
  have hs : Lib.trimS (Lib.decDigits n) dgL = [] := by
    have h1 : (Lib.decDigits n).reverse.dropWhile (dgL.contains ·) = [] := dw_nil _ (fun c hc => hg c (List.mem_reverse.1 hc))
    unfold Lib.trimS Lib.trimRightS
    rw [h1]; rfl
  have hd2 : dgL.contains d = true := hg d (by rw [e]; exact List.mem_cons_self)
  have n45 : (d == 45) = false := by
    rw [beq_eq_false_iff_ne]; rintro rfl; exact absurd hd2 (by decide)
  have n43 : (d == 43) = false := by
    rw [beq_eq_false_iff_ne]; rintro rfl; exact absurd hd2 (by decide)
  have hat : Lib.atoi (Lib.decDigits n) = some (n : Int) := by
    rw [e] at ha ⊢
    show (if (d == 45) = true then _ else if (d == 43) = true then _ else (Lib.decNat (d :: R)).map fun (m : Nat) => (m : Int)) = _
    rw [n45, n43, if_neg (by decide), if_neg (by decide)]
    unfold Lib.decNat
    rw [if_neg (by simp), ha]
    rfl
  have he : (Lib.decDigits n).isEmpty = false := by rw [e]; rfl
  have hl2 : decide (5 < (Lib.decDigits n).length) = false := by simp; omega
  unfold lbP
  rw [ht, hs, he, hl2, hat]
  rfl
end Go.Proofs.YtdandmbgdndnjaaGreatDoor
