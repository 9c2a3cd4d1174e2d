/- Contract of isLong: it answers, and changes nothing. -/
import Derived.Test.YtdandmbgdndnjaaGreatDoorWrtH
namespace Go.Proofs.YtdandmbgdndnjaaGreatDoor
open Go.RowKit

/-- Some truth value. -/
def SomeB (w : World) (e : Ending) (w' : World) : Prop := ∃ b : Bool, e = .returned (.bool b) ∧ w = w'
set_option maxRecDepth 100000 in
set_option maxHeartbeats 2000000 in
theorem isLong_c (v : Value) (l : List Ln) (w : World) (h : RL w v l) : Calls Tryz.prog 8 #[v] w (SomeB w) := by
  obtain ⟨A, cap, rfl, hmx, _⟩ := id h
  have H := Lib.hid h
  clear h
  go_enter Tryz.func8, Tryz.ntmps8
  go_wp2_with fail
  go_loop [3, 4] (fun a t => ∃ (k : Nat) (m : Int), k ≤ l.length ∧ t = .int .i64 (k : Int) ∧ a = .int .i64 m) (fun _ t => l.length - (intOf t).toNat)
  case atStart => exact ⟨0, 0, by omega, rfl, rfl⟩
  case round =>
    obtain ⟨k, m, hk, rfl, rfl⟩ := hrel
    have hk0 : (0 : Int) ≤ (k : Int) := by omega
    by_cases hlt : k < l.length
    · obtain ⟨x, hx⟩ : ∃ x, l[k]? = some x := ⟨_, List.getElem?_eq_getElem hlt⟩
      obtain ⟨bb, o, rfl, c0, c1, c2⟩ := H.out.at hx
      obtain ⟨x0, x1, x2⟩ := x
      simp only at c0 c1 c2
      clear hx
      go_wp2
      go_round
      case rel => exact ⟨k + 1, _, by omega, by go_num, rfl⟩
      case measure => simp [intOf]; omega
    · obtain rfl : k = l.length := by omega
      go_wp2
      all_goals
        go_ret
        exact ⟨_, rfl, rfl⟩
end Go.Proofs.YtdandmbgdndnjaaGreatDoor
