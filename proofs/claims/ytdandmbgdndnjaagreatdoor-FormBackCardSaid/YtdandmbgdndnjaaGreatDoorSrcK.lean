/- Contract of the document's side's outside: the first place of a byte outside of quotes, or -1. -/
import Derived.Test.YtdandmbgdndnjaaGreatDoorSrcD
import Derived.Test.YtdandmbgdndnjaaGreatDoorSrcI
namespace Go.Proofs.YtdandmbgdndnjaaGreatDoor
open Go.RowKit

theorem foB_leK (L : List UInt8) (q : Nat) : ∀ o, foB L o q ≤ L.length := by
  induction L with
  | nil => intro o; exact Nat.le_refl _
  | cons c L ih =>
    intro o
    rw [foB_cons, List.length_cons]
    split
    · omega
    · have := ih (bh o c.toNat); omega

/-- The same, -1 where there is none. -/
def foI (L : List UInt8) (o q : Nat) : Int := if foB L o q < L.length then (foB L o q : Int) else -1
set_option maxRecDepth 100000 in
set_option maxHeartbeats 1000000 in
theorem rOutside_c (s : ByteArray) (hs : s.size ≤ 1000000) (o q : Nat) (ho : o < 256) (w : World) : Calls Tryz.prog 52 #[.string s, .int .u8 (o : Int), .int .u8 (q : Int)] w fun e w' => e = .returned (.int .i64 (foI s.data.toList o q)) ∧ Below w.heap.size w w' := by
  have Hm := Lib.hid (marks_c s hs o ho w)
  go_enter Tryz.func52, Tryz.ntmps52
  go_wp2_with fail
  refine Hm.out.mono ?_
  rintro e w1 ⟨⟨v, rfl, hown⟩, hB⟩
  obtain ⟨g, cap, rfl, hc⟩ := own_at hown (by omega)
  have Hc := Lib.hid hc
  clear hc hown
  go_wp2_with fail
  go_loop [8] (fun t => ∃ k : Nat, k ≤ s.size ∧ t = .int .i64 (k : Int) ∧ foB s.data.toList o q = k + foB (s.data.toList.drop k) (opB (s.data.toList.take k) o) q) (fun t => s.size - (intOf t).toNat)
  case atStart => exact ⟨0, by omega, rfl, by simp [opB]⟩
  case round =>
    obtain ⟨k, hk, rfl, hf⟩ := hrel
    by_cases hlt : k < s.size
    · have ca := Hc.out _ _ (mk_at s.data.toList o (n := s.size) (j := k) (by omega))
      have hst := opB_step s k hlt o
      rw [drop_at s k hlt, foB_cons] at hf
      generalize opB (s.data.toList.take k) o = p at *
      by_cases h1 : s[k].toNat = q
      · have hb : ((s[k].toNat : Int) == (q : Int)) = true := by simp; omega
        by_cases h2 : p = 0
        · subst h2
          rw [if_pos ⟨rfl, h1⟩] at hf
          have Hf := Lib.hid (show (foI s.data.toList o q) = (k : Int) by unfold foI; rw [if_pos (by rw [data_len]; omega)]; omega)
          clear hf hst h1
          go_wp2
          go_ret
          exact ⟨ret_i (by rw [Hf.out]), hB⟩
        · have hb2 : ((p : Int) == 0) = false := by simp; omega
          rw [if_neg (fun h => h2 h.1), ← hst] at hf
          have Hf := Lib.hid (show foB s.data.toList o q = k + 1 + foB (s.data.toList.drop (k + 1)) (opB (s.data.toList.take (k + 1)) o) q by omega)
          clear hf hst h1 h2
          go_wp2
          go_round
          case rel => exact ⟨k + 1, by omega, by go_num, Hf.out⟩
          case measure => simp [intOf]; omega
      · have hb : ((s[k].toNat : Int) == (q : Int)) = false := by simp; omega
        rw [if_neg (fun h => h1 h.2), ← hst] at hf
        have Hf := Lib.hid (show foB s.data.toList o q = k + 1 + foB (s.data.toList.drop (k + 1)) (opB (s.data.toList.take (k + 1)) o) q by omega)
        clear hf hst h1 ca
        go_wp2
        go_round
        case rel => exact ⟨k + 1, by omega, by go_num, Hf.out⟩
        case measure => simp [intOf]; omega
    · obtain rfl : k = s.size := by omega
      have Hf := Lib.hid (show (foI s.data.toList o q) = -1 by
        unfold foI; rw [if_neg (by rw [data_len]; omega)])
      clear hf
      go_wp2
      go_ret
      exact ⟨ret_i (by rw [Hf.out]), hB⟩
end Go.Proofs.YtdandmbgdndnjaaGreatDoor
