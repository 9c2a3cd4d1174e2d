/- Contract of findOutside: the first place of a byte outside of quotes, or the text's length. -/
import Derived.Test.YtdandmbgdndnjaaGreatDoorSrcE
namespace Go.Proofs.YtdandmbgdndnjaaGreatDoor
open Go.RowKit

/-- The first place of a byte q outside of quotes, if o is open ahead of the text. -/
def foB : List UInt8 → Nat → Nat → Nat
  | [], _, _ => 0
  | c :: L, o, q => if o = 0 ∧ c.toNat = q then 0 else 1 + foB L (bh o c.toNat) q
theorem foB_cons (c : UInt8) (L : List UInt8) (o q : Nat) : foB (c :: L) o q = if o = 0 ∧ c.toNat = q then 0 else 1 + foB L (bh o c.toNat) q := rfl
theorem drop_at (s : ByteArray) (k : Nat) (h : k < s.size) : s.data.toList.drop k = s[k] :: s.data.toList.drop (k + 1) :=
  List.drop_eq_getElem_cons (by rw [data_len]; exact h)

set_option maxRecDepth 100000 in
set_option maxHeartbeats 1000000 in
theorem findOutside_c (s : ByteArray) (hs : s.size ≤ 1000000) (o q : Nat) (w : World) : Calls Tryz.prog 51 #[.string s, .int .u8 (o : Int), .int .u8 (q : Int)] w fun e w' => e = .returned (.int .i64 (foB s.data.toList o q : Int)) ∧ w = w' := by
  go_enter Tryz.func51, Tryz.ntmps51
  go_wp2_with fail
  go_loop [1, 10] (fun a t => ∃ k : Nat, k ≤ s.size ∧ t = .int .i64 (k : Int) ∧ a = .int .u8 (opB (s.data.toList.take k) o : Int) ∧ foB s.data.toList o q = k + foB (s.data.toList.drop k) (opB (s.data.toList.take k) o) q) (fun _ t => s.size - (intOf t).toNat)
  case atStart => exact ⟨0, by omega, rfl, rfl, by simp [opB]⟩
  case round =>
    obtain ⟨k, hk, rfl, rfl, hf⟩ := hrel
    by_cases hlt : k < s.size
    · have hst := opB_step s k hlt o
      rw [drop_at s k hlt, foB_cons] at hf
      generalize opB (s.data.toList.take k) o = p at *
      by_cases h1 : p = 0 ∧ s[k].toNat = q
      · rw [if_pos h1] at hf
        have Hf := Lib.hid hf
        obtain ⟨rfl, h2⟩ := h1
        have hb : ((s[k].toNat : Int) == (q : Int)) = true := by simp; omega
        clear hst hf h2
        go_wp2
        go_ret
        exact ⟨ret_i (by rw [Hf.out]; omega), rfl⟩
      · rw [if_neg h1, ← hst] at hf
        have Hf := Lib.hid (show foB s.data.toList o q = k + 1 + foB (s.data.toList.drop (k + 1)) (opB (s.data.toList.take (k + 1)) o) q by omega)
        have Hst := Lib.hid hst
        clear hf hst
        by_cases h0 : p = 0
        · subst h0
          have hb : ((s[k].toNat : Int) == (q : Int)) = false := by simp; omega
          clear h1
          go_wp2_with fail
          refine (behind_c 0 _ _).mono ?_
          rw [← Hst.out]
          rintro e w' ⟨rfl, rfl⟩
          go_wp2
          go_round
          case rel => exact ⟨k + 1, by omega, by go_num, rfl, Hf.out⟩
          case measure => simp [intOf]; omega
        · have hb : ((p : Int) == 0) = false := by simp; omega
          clear h1 h0
          go_wp2_with fail
          refine (behind_c p _ _).mono ?_
          rw [← Hst.out]
          rintro e w' ⟨rfl, rfl⟩
          go_wp2
          go_round
          case rel => exact ⟨k + 1, by omega, by go_num, rfl, Hf.out⟩
          case measure => simp [intOf]; omega
    · obtain rfl : k = s.size := by omega
      have Hf := Lib.hid (show foB s.data.toList o q = s.size by
        rw [hf, List.drop_of_length_le (by rw [data_len]; omega)]; simp [foB])
      clear hf
      go_wp2
      go_ret
      exact ⟨ret_i (by rw [Hf.out]), rfl⟩
end Go.Proofs.YtdandmbgdndnjaaGreatDoor
