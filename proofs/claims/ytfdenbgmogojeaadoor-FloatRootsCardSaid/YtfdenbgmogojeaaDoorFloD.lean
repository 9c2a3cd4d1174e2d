/- Contracts of bits.Len64, bits.LeadingZeros64, and of package float's shift, length, steps, cut: each returns what the plain mathematics says, for every input that its premises name. -/
import Derived.Test.YtfdenbgmogojeaaDoorFloC
import Derived.Test.YtfdenbgmogojeaaDoorFloN
import Derived.Deep.QuietTactic
import Derived.BigQuiet
import Derived.Test.YtfdenbgmogojeaaDoorFloL
namespace Go.Proofs.YtfdenbgmogojeaaDoor
open Go.RowKit

set_option maxHeartbeats 1000000 in
theorem shift_c (hi lo k : Int) (a : U64 hi) (b : U64 lo) (h0 : 0 ≤ k) (w : World) :
    Calls Tryd.prog 117 #[.int .u64 hi, .int .u64 lo, .int .i64 k] w fun e w' => e = .returned (.tuple #[.int .u64 (hiP (nn hi lo / 2 ^ k.toNat)), .int .u64 (loP (nn hi lo / 2 ^ k.toNat)), .bool (lostB (nn hi lo) k.toNat)]) ∧ Below w.heap.size w w' := by
  have a' := a
  have b' := b
  obtain ⟨a0, a1⟩ := a'
  obtain ⟨b0, b1⟩ := b'
  by_cases c1 : k < 64
  · have e1 := Lib.hid (shift_lt_hi hi lo k a b)
    have e2 := Lib.hid (shift_lt_lo hi lo k a b h0 c1)
    have e3 := Lib.hid (shift_lt_b hi lo k a b h0 c1)
    clear a b
    go_enter Tryd.func117, Tryd.ntmps117
    go_wp2_with fail
    go_quiet (fail)
    go_wp2
    go_ret3
    exact ⟨by rw [← e1.out, ← e2.out, ← e3.out]; rfl, below_drewN (Below.refl _ _) _⟩
  · by_cases c2 : k < 128
    · by_cases c3 : lo = 0
      · subst c3
        have e1 := Lib.hid (shift_ge_hi hi 0 k a b (by omega))
        have e2 := Lib.hid (shift_ge_lo hi 0 k a b (by omega))
        have e3 := Lib.hid (shift_ge_b0 hi k a (by omega) c2)
        clear a b
        have c4 : 64 ≤ k := by omega
        clear c1
        go_enter Tryd.func117, Tryd.ntmps117
        go_wp2_with fail
        go_quiet (fail)
        go_wp2
        go_ret3
        exact ⟨by rw [← e1.out, ← e2.out, ← e3.out]; rfl, below_drewN (Below.refl _ _) _⟩
      · have c' : (lo != 0) = true := by simp [c3]
        have e1 := Lib.hid (shift_ge_hi hi lo k a b (by omega))
        have e2 := Lib.hid (shift_ge_lo hi lo k a b (by omega))
        have e3 := Lib.hid (shift_ge_b1 hi lo k a b (by omega) c')
        clear a b c3
        have c4 : 64 ≤ k := by omega
        clear c1
        go_enter Tryd.func117, Tryd.ntmps117
        go_wp2_with fail
        go_quiet (fail)
        go_wp2
        go_ret3
        exact ⟨by rw [← e1.out, ← e2.out, ← e3.out]; rfl, below_drewN (Below.refl _ _) _⟩
    · have c4 : 128 ≤ k := by omega
      have e1 := Lib.hid (shift_big_q hi lo k a b c4)
      have e3 := Lib.hid (shift_big_b hi lo k a b c4)
      clear a b c1 c2
      go_enter Tryd.func117, Tryd.ntmps117
      go_wp2
      go_ret3
      exact ⟨by rw [e1.out, ← e3.out]; rfl, Below.refl _ _⟩

/-- A cell that was there is there still. -/
theorem ck {wp w' : World} {p : Addr} {v : Value} (hb : Below wp.heap.size wp w') (h : wp.cell? p = some v) : w'.cell? p = some v := by
  rw [hb.cell (World.block_lt_of_cell? wp p h)]; exact h
theorem bt {w wp w' : World} (h : Below w.heap.size w wp) (hb : Below wp.heap.size wp w') : Below w.heap.size w w' := h.trans (hb.mono h.size)

set_option maxHeartbeats 1000000 in
theorem LeadingZeros64_c (x : Int) (h0 : 0 ≤ x) (h1 : x ≤ 18446744073709551615) (w : World) :
    Calls Tryd.prog 106 #[.int .u64 x] w fun e w' => e = .returned (.int .i64 (64 - (bl x.toNat : Int))) ∧ w = w' := by
  have hl : (bl x.toNat : Int) ≤ 64 := by have := bl_mono_le x.toNat 64 (by omega); omega
  have hl0 : (0 : Int) ≤ (bl x.toNat : Int) := by omega
  obtain ⟨b, hb⟩ : ∃ b : Int, b = (bl x.toNat : Int) := ⟨_, rfl⟩
  rw [← hb] at hl hl0 ⊢
  have Hb := Lib.hid hb; clear hb
  go_enter Tryd.func106, Tryd.ntmps106
  go_wp2_with fail
  refine (Len64_c x h0 h1 _).mono ?_
  rw [← Hb.out]
  rintro e w' ⟨rfl, rfl⟩
  go_wp2
  go_ret
  exact ⟨rfl, rfl⟩

abbrev exa (s hi lo e : Int) (more : Bool) : Value := .agg #[.int .i64 s, .int .u64 hi, .int .u64 lo, .int .i64 e, .bool more]

set_option maxHeartbeats 1000000 in
theorem length_c (s hi lo e : Int) (more : Bool) (a : U64 hi) (b : U64 lo) (w : World) :
    Calls Tryd.prog 112 #[exa s hi lo e more] w fun e w' => e = .returned (.int .i64 (bl (nn hi lo))) ∧ Below w.heap.size w w' := by
  obtain ⟨a0, a1⟩ := id a
  obtain ⟨b0, b1⟩ := id b
  by_cases c : hi = 0
  · have hE := Lib.hid (show bl (nn hi lo) = bl lo.toNat by rw [c, nn_zero])
    have c' : (hi != 0) = false := by simp [c]
    clear c a b
    go_enter Tryd.func112, Tryd.ntmps112
    go_wp2_with fail
    refine (Len64_c lo b0 (by omega) _).mono ?_
    rintro e w' ⟨rfl, rfl⟩
    go_wp2
    go_ret
    exact ⟨by rw [hE.out]; rfl, by go_grown⟩
  · have hE := Lib.hid (bl_nn hi lo a b c)
    have c' : (hi != 0) = true := by simp [c]
    clear c a b
    have hl : (bl hi.toNat : Int) ≤ 64 := by have := bl_mono_le hi.toNat 64 (by omega); omega
    have hl0 : (0 : Int) ≤ (bl hi.toNat : Int) := by omega
    go_enter Tryd.func112, Tryd.ntmps112
    go_wp2_with fail
    refine (Len64_c hi a0 (by omega) _).mono ?_
    rintro e w' ⟨rfl, rfl⟩
    go_wp2
    go_ret
    exact ⟨by rw [hE.out]; simp, by go_grown⟩

set_option maxHeartbeats 2000000 in
theorem steps_c (mode sign kept rest : Int) (hm : mode = 0 ∨ mode = 1 ∨ mode = 2 ∨ mode = 3) (hr : rest = 0 ∨ rest = 1 ∨ rest = 2 ∨ rest = 3) (hk : U64 kept) (w : World) :
    Calls Tryd.prog 114 #[.int .i64 mode, .int .i64 sign, .int .u64 kept, .int .i64 rest] w fun e w' => e = .returned (.bool (stepsF mode sign kept rest)) ∧ w = w' := by
  have e1 := and_one kept hk
  clear hk
  rcases hm with rfl | rfl | rfl | rfl <;> rcases hr with rfl | rfl | rfl | rfl
  all_goals
    go_enter Tryd.func114, Tryd.ntmps114
    go_wp2
    go_ret
    exact ⟨rfl, rfl⟩

set_option maxHeartbeats 2000000 in
theorem cut_c0 (s lo e k : Int) (more : Bool) (b : U64 lo) (h0 : k ≤ 0) (h1 : -63 ≤ k) (hl : lo.toNat * 2 ^ (-k).toNat < 18446744073709551616) (w : World) :
    Calls Tryd.prog 113 #[exa s 0 lo e more, .int .i64 k] w fun e w' => e = .returned (.tuple #[.int .u64 (cutK (nn 0 lo) k), .int .i64 (cutR (nn 0 lo) more k)]) ∧ Below w.heap.size w w' := by
  have hK := Lib.hid (cut_up lo k b h0 hl)
  have hR := Lib.hid (show cutR (nn 0 lo) more k = 0 by simp [cutR, h0])
  clear hl b
  go_enter Tryd.func113, Tryd.ntmps113
  go_wp2
  go_ret2
  exact ⟨by rw [← hK.out, hR.out]; rfl, by go_grown⟩

end Go.Proofs.YtfdenbgmogojeaaDoor
