/- Contract of quadratref01.Int: the int of a slice's binary digits, at most 64. -/
import Derived.Test.YtfdenbgmogojeaaDoorRefA
import Derived.Test.YtfdenbgmogojeaaDoorFloTz
namespace Go.Proofs.YtfdenbgmogojeaaDoor
open Go.RowKit

theorem or_digit (M k : Nat) (hk : k < 64) : bits .or .u64 ((M % 2 ^ k : Nat) : Int) (IntKind.u64.wrap (((M / 2 ^ k % 2 : Nat) : Int) * 2 ^ k)) = ((M % 2 ^ (k + 1) : Nat) : Int) := by
  have hp := Nat.two_pow_pos k
  have hl := Nat.mod_lt M hp
  have h2 : 2 ^ k ≤ 2 ^ 63 := Nat.pow_le_pow_right (by decide) (by omega)
  have e0 : M % 2 ^ (k + 1) = M % 2 ^ k + 2 ^ k * (M / 2 ^ k % 2) := Nat.mod_pow_succ
  have hd : M / 2 ^ k % 2 = 0 ∨ M / 2 ^ k % 2 = 1 := by omega
  have ez : ((M / 2 ^ k % 2 : Nat) : Int) * 2 ^ k = ((2 ^ k * (M / 2 ^ k % 2) : Nat) : Int) := by
    rw [Int.natCast_mul, Int.natCast_pow, Int.mul_comm]; rfl
  rw [ez, e0]
  have hb : 2 ^ k * (M / 2 ^ k % 2) < 18446744073709551616 := by rcases hd with d | d <;> rw [d] <;> omega
  have hm : (2 ^ k * (M / 2 ^ k % 2)) % 2 ^ k = 0 := Nat.mul_mod_right _ _
  generalize 2 ^ k * (M / 2 ^ k % 2) = y at *
  generalize M % 2 ^ k = x at *
  rw [show IntKind.u64.wrap (y : Int) = (y : Int) by rw [IntKind.wrap_u64]; omega, u64_or_nat x y (by omega) hb, Nat.or_comm, nat_join k y x hm hl]
  omega

set_option maxRecDepth 100000 in
set_option maxHeartbeats 2000000 in
theorem rInt_c (g cap j M : Nat) (hM : M < 2 ^ j) (hj : j ≤ 64) (w : World) (hc : ∀ i, i < j → w.cell? ⟨g, i, none⟩ = some (.int .u8 ((M / 2 ^ i % 2 : Nat) : Int))) :
    Calls Tryd.prog 88 #[.slice (some ⟨g, 0, none⟩) j cap] w fun e w' => e = .returned (.int .i64 (wrap64 (M : Int))) ∧ w = w' := by
  have HM := Lib.hid hM; clear hM
  have HC := Lib.hid hc; clear hc
  go_enter Tryd.func88, Tryd.ntmps88
  go_wp2
  go_loopw [3, 4] (fun u i wr => ∃ k : Nat, k ≤ j ∧ u = .int .u64 ((M % 2 ^ k : Nat) : Int) ∧ i = .int .i64 (k : Int) ∧ wr = w) (fun _ i _ => j - (intOf i).toNat)
  case atStart => exact ⟨0, by omega, by simp [Nat.mod_one], rfl, rfl⟩
  case round =>
    obtain ⟨k, hk, rfl, rfl, rfl⟩ := hrel
    by_cases hkj : k < j
    · have hcell := HC.out k hkj
      have ho := or_digit M k (by omega)
      generalize hd : ((M / 2 ^ k % 2 : Nat) : Int) = d at *
      have hd0 : 0 ≤ d ∧ d ≤ 1 := by omega
      generalize ((M % 2 ^ k : Nat) : Int) = u at *
      go_wp2
      go_roundw
      case rel => exact ⟨k + 1, by omega, by first | (rw [ho]; done) | simp | (simp [ho]), by simp, trivial⟩
      case measure => simp [intOf]; omega
    · have hkk : k = j := by omega
      subst hkk
      have hm : M % 2 ^ k = M := Nat.mod_eq_of_lt HM.out
      rw [hm]
      go_wp2
      go_ret
      exact ⟨rfl, rfl⟩
end Go.Proofs.YtfdenbgmogojeaaDoor
