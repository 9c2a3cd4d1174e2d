/- Contract of layout's add where both floats are finite: the rounded exact sum and its flags; premises as written. -/
import Derived.Test.YtfdenbgmogojeaaDoorFloT
namespace Go.Proofs.YtfdenbgmogojeaaDoor
open Go.RowKit

set_option maxHeartbeats 8000000 in
theorem add_cD1 (W D E mode cx sx mx ex cy sy my ey : Int) (h : KL W D E) (hm : Mode mode) (hf : Fin2 sx mx ex sy my ey) (c1 : ¬ cx = 3) (c2 : ¬ cy = 3) (hz : fN sx mx ex sy my ey ≠ 0) (w : World) :
    Calls Tryd.prog 50 #[lay W D E, .int .i64 mode, num cx sx mx ex, num cy sy my ey] w fun e w' => e = .returned (.tuple #[.int .i64 (numAdd W D mode cx sx mx ex cy sy my ey).1, .int .i64 (numAdd W D mode cx sx mx ex cy sy my ey).2]) ∧ Below w.heap.size w w' := by
  have hN := Lib.hid (show numAdd W D mode cx sx mx ex cy sy my ey = roundF W D mode (fS sx mx ex sy my ey) (fN sx mx ex sy my ey) (fE ex ey) (fL mx ex my ey) by unfold numAdd finSum; rw [if_neg (fun q => c1 q.1), if_neg c1, if_neg c2, if_neg hz])
  have e4 : (cx == 3) = false := by simp [c1]
  have e5 : (cy == 3) = false := by simp [c2]
  have hnz := or_nz (fN sx mx ex sy my ey) (Nat.lt_of_lt_of_le hf.lt (by decide))
  have hF := Lib.hid hf
  clear c1 c2 hf
  rw [show decide (fN sx mx ex sy my ey ≠ 0) = true from decide_eq_true hz] at hnz
  have hr := Lib.hid (hF.out.range h)
  have hR := Lib.hid (round_c W D E mode (fS sx mx ex sy my ey) (hiP (fN sx mx ex sy my ey)) (loP (fN sx mx ex sy my ey)) (fE ex ey) (fL mx ex my ey) h hm hF.out.s (hiP_u _ (Nat.lt_of_lt_of_le hF.out.lt (by decide))) (loP_u _) (by rw [nn_parts]; exact hz) hr.out.1 (by rw [nn_parts]; exact hr.out.2))
  clear hz
  go_enter Tryd.func50, Tryd.ntmps50
  go_wp2_with fail
  refine (sum_c cx sx mx ex cy sy my ey hF.out _).mono ?_
  rintro e w1 ⟨rfl, hb⟩
  obtain ⟨hL, hX, hY, hB, hlt⟩ := box3 (xs := [_, _, _]) (ys := [_, _, _, _]) (zs := [_, _, _]) hb
  clear hb
  obtain ⟨l0, l1, l2⟩ := hL.c3
  obtain ⟨a0, a1, a2, a3⟩ := hX.c4
  obtain ⟨b0, b1, b2, b3⟩ := hY.c4
  have hlt0 : w.heap.size < w1.heap.size := by omega
  have hlt1 : w.heap.size + 1 < w1.heap.size := by omega
  have hB1 := hB.alloc hB.size (.cells #[.int .i64 (fS sx mx ex sy my ey), .int .u64 (hiP (fN sx mx ex sy my ey)), .int .u64 (loP (fN sx mx ex sy my ey)), .int .i64 (fE ex ey), .bool (fL mx ex my ey)] 77)
  go_wp2_with fail
  refine (hR.out _).mono ?_
  rw [nn_parts]
  rintro e w2 ⟨rfl, hb⟩
  go_wp2
  go_ret2
  exact ⟨by rw [hN.out]; rfl, bt hB1 hb⟩

set_option maxHeartbeats 8000000 in
theorem add_cD2 (W D E mode cx sx mx ex cy sy my ey : Int) (h : KL W D E) (hf : Fin2 sx mx ex sy my ey) (c1 : ¬ cx = 3) (c2 : ¬ cy = 3) (hz : fN sx mx ex sy my ey = 0) (hs : sx = sy) (w : World) :
    Calls Tryd.prog 50 #[lay W D E, .int .i64 mode, num cx sx mx ex, num cy sy my ey] w fun e w' => e = .returned (.tuple #[.int .i64 (numAdd W D mode cx sx mx ex cy sy my ey).1, .int .i64 (numAdd W D mode cx sx mx ex cy sy my ey).2]) ∧ Below w.heap.size w w' := by
  have hN := Lib.hid (show numAdd W D mode cx sx mx ex cy sy my ey = (jn W sx 0, 0) by unfold numAdd finSum; rw [if_neg (fun q => c1 q.1), if_neg c1, if_neg c2, if_pos hz, if_pos hs])
  have e4 : (cx == 3) = false := by simp [c1]
  have e5 : (cy == 3) = false := by simp [c2]
  have hnz := or_nz (fN sx mx ex sy my ey) (Nat.lt_of_lt_of_le hf.lt (by decide))
  have hF := Lib.hid hf
  clear c1 c2 hf
  rw [show decide (fN sx mx ex sy my ey ≠ 0) = false by simp [hz]] at hnz
  have e6 : (sx != sy) = false := by simp [hs]
  have hh := Lib.hid (show (0 : Int) ≤ 0 ∧ (0 : Int) < Go.Proofs.YtfdenbgmogojeaaDoor.hf W from ⟨by omega, by have := (one_b h).2; omega⟩)
  clear hz hs
  go_enter Tryd.func50, Tryd.ntmps50
  go_wp2_with fail
  refine (sum_c cx sx mx ex cy sy my ey hF.out _).mono ?_
  rintro e w1 ⟨rfl, hb⟩
  obtain ⟨hL, hX, hY, hB, hlt⟩ := box3 (xs := [_, _, _]) (ys := [_, _, _, _]) (zs := [_, _, _]) hb
  clear hb
  obtain ⟨l0, l1, l2⟩ := hL.c3
  obtain ⟨a0, a1, a2, a3⟩ := hX.c4
  obtain ⟨b0, b1, b2, b3⟩ := hY.c4
  have hlt0 : w.heap.size < w1.heap.size := by omega
  have hlt1 : w.heap.size + 1 < w1.heap.size := by omega
  have hB1 := hB.alloc hB.size (.cells #[.int .i64 (fS sx mx ex sy my ey), .int .u64 (hiP (fN sx mx ex sy my ey)), .int .u64 (loP (fN sx mx ex sy my ey)), .int .i64 (fE ex ey), .bool (fL mx ex my ey)] 77)
  go_wp2_with (first | (go_at_call 80; refine (join_c W D E _ 0 h hF.out.hsx hh.out.1 hh.out.2 _).mono ?_; rintro e w2 ⟨rfl, hb⟩) | go_in)
  go_ret2
  exact ⟨by rw [hN.out]; rfl, bt hB1 hb⟩

set_option maxHeartbeats 8000000 in
theorem add_cD3 (W D E mode cx sx mx ex cy sy my ey : Int) (h : KL W D E) (hf : Fin2 sx mx ex sy my ey) (c1 : ¬ cx = 3) (c2 : ¬ cy = 3) (hz : fN sx mx ex sy my ey = 0) (hs : ¬ sx = sy) (hmd : mode = 2) (w : World) :
    Calls Tryd.prog 50 #[lay W D E, .int .i64 mode, num cx sx mx ex, num cy sy my ey] w fun e w' => e = .returned (.tuple #[.int .i64 (numAdd W D mode cx sx mx ex cy sy my ey).1, .int .i64 (numAdd W D mode cx sx mx ex cy sy my ey).2]) ∧ Below w.heap.size w w' := by
  have hN := Lib.hid (show numAdd W D mode cx sx mx ex cy sy my ey = (jn W 1 0, 0) by unfold numAdd finSum; rw [if_neg (fun q => c1 q.1), if_neg c1, if_neg c2, if_pos hz, if_neg hs, if_pos hmd])
  have e4 : (cx == 3) = false := by simp [c1]
  have e5 : (cy == 3) = false := by simp [c2]
  have hnz := or_nz (fN sx mx ex sy my ey) (Nat.lt_of_lt_of_le hf.lt (by decide))
  have hF := Lib.hid hf
  clear c1 c2 hf
  rw [show decide (fN sx mx ex sy my ey ≠ 0) = false by simp [hz]] at hnz
  have e6 : (sx != sy) = true := by simp [hs]
  have e7 : (mode == 2) = true := by simp [hmd]
  have hh := Lib.hid (show (0 : Int) ≤ 0 ∧ (0 : Int) < Go.Proofs.YtfdenbgmogojeaaDoor.hf W from ⟨by omega, by have := (one_b h).2; omega⟩)
  clear hz hs hmd
  go_enter Tryd.func50, Tryd.ntmps50
  go_wp2_with fail
  refine (sum_c cx sx mx ex cy sy my ey hF.out _).mono ?_
  rintro e w1 ⟨rfl, hb⟩
  obtain ⟨hL, hX, hY, hB, hlt⟩ := box3 (xs := [_, _, _]) (ys := [_, _, _, _]) (zs := [_, _, _]) hb
  clear hb
  obtain ⟨l0, l1, l2⟩ := hL.c3
  obtain ⟨a0, a1, a2, a3⟩ := hX.c4
  obtain ⟨b0, b1, b2, b3⟩ := hY.c4
  have hlt0 : w.heap.size < w1.heap.size := by omega
  have hlt1 : w.heap.size + 1 < w1.heap.size := by omega
  have hB1 := hB.alloc hB.size (.cells #[.int .i64 (fS sx mx ex sy my ey), .int .u64 (hiP (fN sx mx ex sy my ey)), .int .u64 (loP (fN sx mx ex sy my ey)), .int .i64 (fE ex ey), .bool (fL mx ex my ey)] 77)
  go_wp2_with (first | (go_at_call 80; refine (join_c W D E _ 0 h (by simp) hh.out.1 hh.out.2 _).mono ?_; rintro e w2 ⟨rfl, hb⟩) | go_in)
  go_ret2
  exact ⟨by rw [hN.out]; rfl, bt hB1 hb⟩

set_option maxHeartbeats 8000000 in
theorem add_cD4 (W D E mode cx sx mx ex cy sy my ey : Int) (h : KL W D E) (hf : Fin2 sx mx ex sy my ey) (c1 : ¬ cx = 3) (c2 : ¬ cy = 3) (hz : fN sx mx ex sy my ey = 0) (hs : ¬ sx = sy) (hmd : ¬ mode = 2) (w : World) :
    Calls Tryd.prog 50 #[lay W D E, .int .i64 mode, num cx sx mx ex, num cy sy my ey] w fun e w' => e = .returned (.tuple #[.int .i64 (numAdd W D mode cx sx mx ex cy sy my ey).1, .int .i64 (numAdd W D mode cx sx mx ex cy sy my ey).2]) ∧ Below w.heap.size w w' := by
  have hN := Lib.hid (show numAdd W D mode cx sx mx ex cy sy my ey = (jn W 0 0, 0) by unfold numAdd finSum; rw [if_neg (fun q => c1 q.1), if_neg c1, if_neg c2, if_pos hz, if_neg hs, if_neg hmd])
  have e4 : (cx == 3) = false := by simp [c1]
  have e5 : (cy == 3) = false := by simp [c2]
  have hnz := or_nz (fN sx mx ex sy my ey) (Nat.lt_of_lt_of_le hf.lt (by decide))
  have hF := Lib.hid hf
  clear c1 c2 hf
  rw [show decide (fN sx mx ex sy my ey ≠ 0) = false by simp [hz]] at hnz
  have e6 : (sx != sy) = true := by simp [hs]
  have e7 : (mode == 2) = false := by simp [hmd]
  have hh := Lib.hid (show (0 : Int) ≤ 0 ∧ (0 : Int) < Go.Proofs.YtfdenbgmogojeaaDoor.hf W from ⟨by omega, by have := (one_b h).2; omega⟩)
  clear hz hs hmd
  go_enter Tryd.func50, Tryd.ntmps50
  go_wp2_with fail
  refine (sum_c cx sx mx ex cy sy my ey hF.out _).mono ?_
  rintro e w1 ⟨rfl, hb⟩
  obtain ⟨hL, hX, hY, hB, hlt⟩ := box3 (xs := [_, _, _]) (ys := [_, _, _, _]) (zs := [_, _, _]) hb
  clear hb
  obtain ⟨l0, l1, l2⟩ := hL.c3
  obtain ⟨a0, a1, a2, a3⟩ := hX.c4
  obtain ⟨b0, b1, b2, b3⟩ := hY.c4
  have hlt0 : w.heap.size < w1.heap.size := by omega
  have hlt1 : w.heap.size + 1 < w1.heap.size := by omega
  have hB1 := hB.alloc hB.size (.cells #[.int .i64 (fS sx mx ex sy my ey), .int .u64 (hiP (fN sx mx ex sy my ey)), .int .u64 (loP (fN sx mx ex sy my ey)), .int .i64 (fE ex ey), .bool (fL mx ex my ey)] 77)
  go_wp2_with (first | (go_at_call 80; refine (join_c W D E _ 0 h (by simp) hh.out.1 hh.out.2 _).mono ?_; rintro e w2 ⟨rfl, hb⟩) | go_in)
  go_ret2
  exact ⟨by rw [hN.out]; rfl, bt hB1 hb⟩

theorem add_c (W D E mode cx sx mx ex cy sy my ey : Int) (h : KL W D E) (hm : Mode mode) (hsx : Sgn sx) (hsy : Sgn sy) (hf : ¬ cx = 3 → ¬ cy = 3 → Fin2 sx mx ex sy my ey) (w : World) :
    Calls Tryd.prog 50 #[lay W D E, .int .i64 mode, num cx sx mx ex, num cy sy my ey] w fun e w' => e = .returned (.tuple #[.int .i64 (numAdd W D mode cx sx mx ex cy sy my ey).1, .int .i64 (numAdd W D mode cx sx mx ex cy sy my ey).2]) ∧ Below w.heap.size w w' := by
  by_cases c1 : cx = 3
  · by_cases c2 : cy = 3 ∧ sx ≠ sy
    · exact add_cA W D E mode cx sx mx ex cy sy my ey h c1 c2.1 c2.2 w
    · exact add_cB W D E mode cx sx mx ex cy sy my ey h hsx c1 c2 w
  by_cases c2 : cy = 3
  · exact add_cC W D E mode cx sx mx ex cy sy my ey h hsy c1 c2 w
  have hf := hf c1 c2
  by_cases hz : fN sx mx ex sy my ey = 0
  · by_cases hs : sx = sy
    · exact add_cD2 W D E mode cx sx mx ex cy sy my ey h hf c1 c2 hz hs w
    · by_cases hmd : mode = 2
      · exact add_cD3 W D E mode cx sx mx ex cy sy my ey h hf c1 c2 hz hs hmd w
      · exact add_cD4 W D E mode cx sx mx ex cy sy my ey h hf c1 c2 hz hs hmd w
  · exact add_cD1 W D E mode cx sx mx ex cy sy my ey h hm hf c1 c2 hz w
end Go.Proofs.YtfdenbgmogojeaaDoor
