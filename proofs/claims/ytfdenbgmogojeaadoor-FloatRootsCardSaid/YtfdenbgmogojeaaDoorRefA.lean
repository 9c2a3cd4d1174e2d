/- Contract of quadratref01.Of: the slice of a number's binary digits, the lowest first, in new memory; for every int, taken as 64 bits. -/
import Derived.Test.YtfdenbgmogojeaaDoorFloH
import Derived.OwnWalk
import Derived.Carry
namespace Go.Proofs.YtfdenbgmogojeaaDoor
open Go.RowKit

theorem info5 : (Tryd.prog.info? 5).map (fun i => (i.zero, i.size, i.bytes)) = some (some (.int .u8 0), 1, 1) := by kernel_rfl

/-- The j lowest binary digits of a number, as values. -/
def dg (n j : Nat) : List Value := (List.range j).map fun i => .int .u8 ((n / 2 ^ i % 2 : Nat) : Int)
theorem dg_length (n j : Nat) : (dg n j).length = j := by simp [dg]
theorem dg_succ (n j : Nat) : dg n (j + 1) = dg n j ++ [.int .u8 ((n / 2 ^ j % 2 : Nat) : Int)] := by
  unfold dg; rw [List.range_succ, List.map_append]; rfl
theorem bl_of_div (n j : Nat) (h : n / 2 ^ j = 0) : bl n ≤ j := by
  have hp := Nat.two_pow_pos j
  exact bl_mono_le n j ((Nat.div_eq_zero_iff_lt hp).1 h)
theorem bl_of_pos (n j : Nat) (h : 0 < n / 2 ^ j) : j < bl n := by
  have hp := Nat.two_pow_pos j
  have h1 : 2 ^ j ≤ n := by
    have := (Nat.le_div_iff_mul_le hp).1 h; omega
  have h2 := bl_lt n
  exact (Nat.pow_lt_pow_iff_right (by decide : 1 < 2)).1 (Nat.lt_of_le_of_lt h1 h2)

set_option maxRecDepth 100000 in
set_option maxHeartbeats 2000000 in
theorem Of_c (n : Int) (N : Nat) (hN : IntKind.u64.wrap n = (N : Int)) (h64 : N < 18446744073709551616) (w : World) :
    Calls Tryd.prog 83 #[.int .i64 n] w fun e w' => ∃ v, e = .returned v ∧ w'.ownsRow w.heap.size 5 1 v (bl N) (dg N (bl N)) ∧ Below w.heap.size w w' := by
  obtain ⟨i0, hi, hz0, hz1, hz2⟩ := info_parts info5
  have hbl : bl N ≤ 64 := bl_mono_le N 64 (by omega)
  obtain ⟨B, hB0⟩ : ∃ B, B = w.heap.size := ⟨_, rfl⟩
  rw [← hB0]
  have HB := Lib.hid hB0; clear hB0
  have H64 := Lib.hid h64; clear h64
  go_enter Tryd.func83, Tryd.ntmps83
  go_wp2
  go_loopw [3, 4] (fun v u wr => ∃ j x : Nat, x = N / 2 ^ j ∧ j ≤ bl N ∧ u = .int .u64 x ∧ wr.ownsRow B 5 1 v j (dg N j) ∧ Below B w wr) (fun _ u _ => (intOf u).toNat)
  case atStart => exact ⟨0, N, by simp, Nat.zero_le _, rfl, World.ownsRow_nil _ _ _ _, Below.refl _ _⟩
  case round =>
    obtain ⟨j, x, hx, hj, rfl, hown, hbe⟩ := hrel
    have Hx := Lib.hid hx; clear hx
    have hsz : B ≤ wr.heap.size := by have := hbe.size; have := HB.out; omega
    have hxb : (x : Int) ≤ 18446744073709551615 := by
      have h1 : N / 2 ^ j ≤ N := Nat.div_le_self _ _
      have h2 := Hx.out
      have h3 := H64.out
      omega
    by_cases hx0 : 0 < x
    · have hjl : j < bl N := bl_of_pos N j (by have := Hx.out; omega)
      go_wp2_with (at_builtin; refine wpList_append_own _ rfl _ _ 51 rfl B 5 i0 (.int .u8 0) 1 1 Tryd.underlying51 hi hz0 hz1 hz2 rfl (by decide) _ _ _ rfl (hown.alloc _) ⟨wr.heap.size, 0, none⟩ 1 1 [.int .u8 ((x : Int) % 2)] rfl rfl ?c1 ?c2 ?c3 ?c4 ?c5 ?_)
      case c1 =>
        intro j' u hj'
        match j', hj' with
        | 0, hj' => simp at hj'; subst hj'; simp [Addr.add]
      case c2 => intro u hu; simp at hu; subst hu; rfl
      case c3 => unfold maxLen; omega
      case c4 => omega
      case c5 => simp; omega
      intro v' w1 hown' hgrow _
      have hd : dg N j ++ [.int .u8 ((x : Int) % 2)] = dg N (j + 1) := by
        rw [dg_succ, ← Hx.out]; simp
      rw [hd] at hown'
      have hb' : Below B w w1 := (hbe.alloc hsz _).grown hgrow (by simp; omega) (fun k hk => (hown.lt k hk).1)
      clear hgrow hown hbe hd
      go_wp2
      go_roundw
      case rel => exact ⟨j + 1, x / 2, by rw [Hx.out, Nat.pow_succ, Nat.div_div_eq_div_mul], by omega, by simp, hown', hb'⟩
      case measure => simp [intOf]; omega
    · have hje : j = bl N := by
        have := bl_of_div N j (by have := Hx.out; omega)
        omega
      have HJ := Lib.hid hje; clear hje
      go_wp2
      go_ret
      refine ⟨u3, rfl, ?_, hbe⟩
      rw [← HJ.out]; exact hown
end Go.Proofs.YtfdenbgmogojeaaDoor
