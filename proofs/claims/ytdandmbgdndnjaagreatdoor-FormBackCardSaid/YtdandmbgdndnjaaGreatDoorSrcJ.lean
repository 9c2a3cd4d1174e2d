/- Contracts of the document's side: which byte is a digit; how many digits a text begins with. -/
import Derived.Test.YtdandmbgdndnjaaGreatDoorSrcI
namespace Go.Proofs.YtdandmbgdndnjaaGreatDoor
open Go.RowKit

def cD (c : Nat) : Bool := decide (48 ≤ c ∧ c ≤ 57)
/-- How many digits a text begins with. -/
def dgN : List UInt8 → Nat
  | [] => 0
  | c :: L => if cD c.toNat = true then 1 + dgN L else 0
theorem dgN_cons (c : UInt8) (L : List UInt8) : dgN (c :: L) = if cD c.toNat = true then 1 + dgN L else 0 := rfl

set_option maxHeartbeats 400000 in
theorem rDigit_c (c : Nat) (w : World) : Calls Tryz.prog 82 #[.int .u8 (c : Int)] w fun e w' => e = .returned (.bool (cD c)) ∧ w = w' := by
  go_enter Tryz.func82, Tryz.ntmps82
  go_wp2
  all_goals
    go_ret
    exact ⟨ret_b (by unfold cD; rw [Bool.eq_iff_iff]; simp; omega), rfl⟩

set_option maxRecDepth 100000 in
set_option maxHeartbeats 1000000 in
theorem rDigits_c (s : ByteArray) (hs : s.size ≤ 1000000) (w : World) : Calls Tryz.prog 53 #[.string s] w fun e w' => e = .returned (.int .i64 (dgN s.data.toList : Int)) ∧ w = w' := by
  go_enter Tryz.func53, Tryz.ntmps53
  go_wp2_with fail
  go_loop [3] (fun t => ∃ k : Nat, k ≤ s.size ∧ t = .int .i64 (k : Int) ∧ dgN s.data.toList = k + dgN (s.data.toList.drop k)) (fun t => s.size - (intOf t).toNat)
  case atStart => exact ⟨0, by omega, rfl, by simp⟩
  case round =>
    obtain ⟨k, hk, rfl, hf⟩ := hrel
    by_cases hlt : k < s.size
    · rw [drop_at s k hlt, dgN_cons] at hf
      rcases hp : cD s[k].toNat with _ | _
      · rw [hp] at hf
        have Hf := Lib.hid (show dgN s.data.toList = k by simpa using hf)
        have Hp := Lib.hid hp
        clear hf hp
        go_wp2_with (go_at_call 82; refine (rDigit_c _ _).mono ?_; rw [Hp.out]; rintro e w' ⟨rfl, rfl⟩)
        go_ret
        exact ⟨ret_i (by rw [Hf.out]), rfl⟩
      · rw [hp, if_pos rfl] at hf
        have Hf := Lib.hid (show dgN s.data.toList = k + 1 + dgN (s.data.toList.drop (k + 1)) by omega)
        have Hp := Lib.hid hp
        clear hf hp
        go_wp2_with (go_at_call 82; refine (rDigit_c _ _).mono ?_; rw [Hp.out]; rintro e w' ⟨rfl, rfl⟩)
        go_round
        case rel => exact ⟨k + 1, by omega, by go_num, Hf.out⟩
        case measure => simp [intOf]; omega
    · obtain rfl : k = s.size := by omega
      have Hf := Lib.hid (show dgN s.data.toList = s.size by
        rw [hf, List.drop_of_length_le (by rw [data_len]; omega)]; simp [dgN])
      clear hf
      go_wp2
      go_ret
      exact ⟨ret_i (by rw [Hf.out]), rfl⟩
end Go.Proofs.YtdandmbgdndnjaaGreatDoor
