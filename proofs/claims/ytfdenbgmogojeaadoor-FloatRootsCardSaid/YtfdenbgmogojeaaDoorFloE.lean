/- Contract of package float's cut, for k above 0 and k at most 0; premises: what is kept fits into 64 bits. -/
import Derived.Test.YtfdenbgmogojeaaDoorFloD
namespace Go.Proofs.YtfdenbgmogojeaaDoor
open Go.RowKit

theorem cutR_pos (n : Nat) (more : Bool) (k : Int) (h0 : 0 < k) (l o : Bool) (hl : lostB n (k - 1).toNat = l) (ho : decide (n / 2 ^ (k - 1).toNat % 2 = 1) = o) :
    cutR n more k = if o = true then (if (l || more) = true then 3 else 2) else if (l || more) = true then 1 else 0 := by
  unfold cutR; rw [if_neg (by omega), hl]
  cases o
  · have := of_decide_eq_false ho; rw [if_neg this]; rfl
  · have := of_decide_eq_true ho; rw [if_pos this]; rfl

set_option maxHeartbeats 4000000 in
theorem cut_c1 (s hi lo e k : Int) (more : Bool) (a : U64 hi) (b : U64 lo) (h0 : 0 < k) (h1 : k ≤ 1000000) (hl : nn hi lo / 2 ^ (k - 1).toNat < 18446744073709551616) (w : World) :
    Calls Tryd.prog 113 #[exa s hi lo e more, .int .i64 k] w fun e w' => e = .returned (.tuple #[.int .u64 (cutK (nn hi lo) k), .int .i64 (cutR (nn hi lo) more k)]) ∧ Below w.heap.size w w' := by
  have hK0 := cut_half (nn hi lo) k h0 hl
  have hR1 := fun l o => cutR_pos (nn hi lo) more k h0 l o
  obtain ⟨j, hj⟩ : ∃ j, j = (k - 1).toNat := ⟨_, rfl⟩
  rw [← hj] at hK0 hR1
  have hK := Lib.hid hK0; clear hK0
  have Hj := Lib.hid hj; clear hj
  have e1 := and_one (loP (nn hi lo / 2 ^ j)) (loP_u _)
  have e2 := loP_odd (nn hi lo / 2 ^ j)
  have e3 : 0 ≤ loP (nn hi lo / 2 ^ j) := (loP_u _).1
  have Hab := Lib.hid (And.intro a b)
  clear hl a b
  cases hL : lostB (nn hi lo) j <;> cases hO : decide (nn hi lo / 2 ^ j % 2 = 1) <;> have hR0 := hR1 _ _ hL hO <;> rcases Bool.eq_false_or_eq_true more with hM | hM
  all_goals
    have hR := Lib.hid hR0; clear hR0 hR1
    rw [hO, ← e1] at e2
    have HE1 := Lib.hid e1; clear e1
    clear hO
    go_enter Tryd.func113, Tryd.ntmps113
    go_wp2_with fail
    refine (shift_c hi lo (k - 1) Hab.out.1 Hab.out.2 (by omega) _).mono ?_
    rw [← Hj.out, hL]
    rintro e w1 ⟨rfl, hb⟩
    have hc0 := ck hb (show (w.alloc _).cell? ⟨w.heap.size, 4, none⟩ = some (.bool more) by go_cell)
    have hB : Below w.heap.size w w1 := bt (by go_grown) hb
    clear hb
    go_wp2
    go_ret2
    exact ⟨by rw [← hK.out, hR.out, hM]; rfl, hB⟩

theorem cut_c (s hi lo e k : Int) (more : Bool) (a : U64 hi) (b : U64 lo) (h1 : k ≤ 1000000)
    (hl : (0 < k ∧ nn hi lo / 2 ^ (k - 1).toNat < 18446744073709551616) ∨ (k ≤ 0 ∧ -63 ≤ k ∧ hi = 0 ∧ lo.toNat * 2 ^ (-k).toNat < 18446744073709551616)) (w : World) :
    Calls Tryd.prog 113 #[exa s hi lo e more, .int .i64 k] w fun e w' => e = .returned (.tuple #[.int .u64 (cutK (nn hi lo) k), .int .i64 (cutR (nn hi lo) more k)]) ∧ Below w.heap.size w w' := by
  rcases hl with ⟨h0, hl⟩ | ⟨h0, h2, rfl, hl⟩
  · exact cut_c1 s hi lo e k more a b h0 h1 hl w
  · exact cut_c0 s lo e k more b h0 h2 hl w
end Go.Proofs.YtfdenbgmogojeaaDoor
