/- The sanity check: example 1 of the chapter. -/
import Derived.Test.YtkgdnlknnjiglaaSecJ
namespace Go.Proofs.Ytkgdnlknnjiglaa
open Go.RowKit

theorem awake1 : whl [4, 3] = ⟨0, [4, 3], [1, 4]⟩ ∧ whE [4, 3] = 0 := ⟨by rfl, by rfl⟩
theorem awake2 : cutD ⟨0, [4, 3], [1, 4]⟩ [⟨false, 0, 1, 3, 2⟩, ⟨true, 2, 0, 0, 0⟩] = ⟨9, [2], [2]⟩ ∧ cutE ⟨0, [4, 3], [1, 4]⟩ [⟨false, 0, 1, 3, 2⟩, ⟨true, 2, 0, 0, 0⟩] = 0 := ⟨by kernel_rfl, by kernel_rfl⟩
theorem RI.lit (w : World) (l : List Int) (c : Nat) (t : TypeId) (hf : ∀ x ∈ l, Fit x) (hl : l.length ≤ 9223372036854775807) : RI (w.alloc (.cells (icells l).toArray t)) (.slice (some ⟨w.heap.size, 0, none⟩) l.length c) l :=
  ⟨_, c, rfl, hl, hf, fun _ => ⟨_, 0, rfl, fun j u hu => by
    have h := Has.new w (icells l) t
    rw [Nat.zero_add]
    exact (h j _ (icells_at hu)).1⟩⟩
def subs2 : List SB := [⟨false, 0, 1, 3, 2⟩, ⟨true, 2, 0, 0, 0⟩]
theorem RS.subs2 (w : World) (t : TypeId) : RS (w.alloc (.cells #[.bool false, .int .i64 0, .int .i64 1, .int .i64 3, .int .i64 2, .bool true, .int .i64 2, .int .i64 0, .int .i64 0, .int .i64 0] t)) (.slice (some ⟨w.heap.size, 0, none⟩) 2 2) subs2 := by
  refine ⟨_, 2, rfl, by decide, ?_, fun _ => ⟨_, 0, rfl, fun k s hs => ?_⟩⟩
  · intro s hs
    simp only [Go.Proofs.Ytkgdnlknnjiglaa.subs2, List.mem_cons, List.not_mem_nil, or_false] at hs
    unfold Fit
    rcases hs with rfl | rfl <;> simp
  · have h := Has.new w [.bool false, .int .i64 0, .int .i64 1, .int .i64 3, .int .i64 2, .bool true, .int .i64 2, .int .i64 0, .int .i64 0, .int .i64 0] t
    match k, hs with
    | 0, hs =>
      obtain rfl : (⟨false, 0, 1, 3, 2⟩ : SB) = s := by simpa [Go.Proofs.Ytkgdnlknnjiglaa.subs2] using hs
      exact ⟨(h 0 _ rfl).1, (h 1 _ rfl).1, (h 2 _ rfl).1, (h 3 _ rfl).1, (h 4 _ rfl).1⟩
    | 1, hs =>
      obtain rfl : (⟨true, 2, 0, 0, 0⟩ : SB) = s := by simpa [Go.Proofs.Ytkgdnlknnjiglaa.subs2] using hs
      exact ⟨(h 5 _ rfl).1, (h 6 _ rfl).1, (h 7 _ rfl).1, (h 8 _ rfl).1, (h 9 _ rfl).1⟩
    | k + 2, hs => simp [Go.Proofs.Ytkgdnlknnjiglaa.subs2] at hs
set_option maxRecDepth 100000 in
set_option maxHeartbeats 4000000 in
theorem Awake_c (w : World) : Calls Try.prog 14 #[] w fun e w' => e = .returned (.bool true) ∧ Below w.heap.size w w' := by
  have H1 := Lib.hid (Whole_c _ _ _ (RI.lit w [4, 3] 2 3 (by unfold Fit; simp) (by decide)))
  rw [awake1.1, awake1.2] at H1
  go_enter Try.func14, Try.ntmps14
  go_wp2_with fail
  refine H1.out.mono ?_
  rintro e w1 ⟨v, rfl, ⟨v1, v2, rfl, hr1, hr2, -⟩, hb⟩
  have HR1 := Lib.hid hr1; have HR2 := Lib.hid hr2
  have HB := Lib.hid (bt_ (box_below w _) hb)
  obtain ⟨A1, c1, rfl⟩ := hr1.slice
  obtain ⟨A2, c2, rfl⟩ := hr2.slice
  clear hr1 hr2 hb
  have HS := Lib.hid (RS.subs2 (w1.alloc (.cells #[.int .i64 0, .slice A1 2 c1, .slice A2 2 c2] 31)) 57)
  have HD := Lib.hid (show RD ((w1.alloc (.cells #[.int .i64 0, .slice A1 2 c1, .slice A2 2 c2] 31)).alloc (.cells #[.bool false, .int .i64 0, .int .i64 1, .int .i64 3, .int .i64 2, .bool true, .int .i64 2, .int .i64 0, .int .i64 0, .int .i64 0] 57)) (.agg #[.int .i64 0, .slice A1 2 c1, .slice A2 2 c2]) ⟨0, [4, 3], [1, 4]⟩ from
    ⟨_, _, rfl, HR1.out.keep (bt_ (box_below w1 _) (box_below _ _)), HR2.out.keep (bt_ (box_below w1 _) (box_below _ _)), fit0⟩)
  have HC := Lib.hid (Cut_c _ _ _ _ _ HD.out HS.out)
  rw [show cutD ⟨0, [4, 3], [1, 4]⟩ subs2 = ⟨9, [2], [2]⟩ from awake2.1, show cutE ⟨0, [4, 3], [1, 4]⟩ subs2 = 0 from awake2.2, World.size_alloc] at HC
  have HB2 := Lib.hid (bt_ HB.out (bt_ (box_below w1 (.cells #[.int .i64 0, .slice A1 2 c1, .slice A2 2 c2] 31)) (box_below _ (.cells #[.bool false, .int .i64 0, .int .i64 1, .int .i64 3, .int .i64 2, .bool true, .int .i64 2, .int .i64 0, .int .i64 0, .int .i64 0] 57))))
  have HX := Lib.hid ((Has.new w1 [.int .i64 0, .slice A1 2 c1, .slice A2 2 c2] 31).alloc (.cells #[.bool false, .int .i64 0, .int .i64 1, .int .i64 3, .int .i64 2, .bool true, .int .i64 2, .int .i64 0, .int .i64 0, .int .i64 0] 57))
  go_wp2_with fail
  refine HC.out.mono ?_
  rintro e w2 ⟨v, rfl, ⟨v1, v2, rfl, hr1, hr2, -⟩, hb⟩
  have HB3 := Lib.hid (bt_ HB2.out hb)
  have HR3 := Lib.hid (HR2.out.keep (bt_ (bt_ (box_below w1 _) (box_below _ _)) hb))
  have HR4 := Lib.hid hr1; have HR5 := Lib.hid hr2
  obtain ⟨A3, c3, rfl⟩ := hr1.slice
  obtain ⟨A4, c4, rfl⟩ := hr2.slice
  have hx := HX.out.keep hb
  obtain ⟨x1, x2, x3⟩ := hx.c3
  have hn : w1.heap.size < w2.heap.size := hx.lt
  have hf12 : Fit 1 ∧ Fit 4 ∧ Fit 2 := by unfold Fit; omega
  clear hr1 hr2 hb hx
  go_wp2_with fail
  refine (sameInts_c _ _ [1, 4] [1, 4] _ (HR3.out.keep (bt_ (box_below w2 _) (box_below _ _))) (by simpa [icells] using RI.lit (w2.alloc (.cells #[.int .i64 9, .slice A3 1 c3, .slice A4 1 c4] 31)) [1, 4] 2 3 (by unfold Fit; simp) (by decide))).mono ?_
  rw [decide_eq_true (rfl : ([1, 4] : List Int) = [1, 4])]
  rintro e w3 ⟨rfl, n3, rfl⟩
  go_wp2_with fail
  refine (sameInts_c _ _ [2] [2] _ (HR4.out.keep (bt_ (below_dn (bt_ (box_below w2 _) (box_below _ _)) n3) (box_below _ _))) (RI.oneN _ 2 _ (by unfold Fit; omega) 3 (by show (World.heap ((w2.alloc _).alloc _)).size = _; simp))).mono ?_
  rw [decide_eq_true (rfl : ([2] : List Int) = [2])]
  rintro e w4 ⟨rfl, n4, rfl⟩
  go_wp2_with fail
  refine (sameInts_c _ _ [2] [2] _ (HR5.out.keep (bt_ (below_dn (bt_ (below_dn (bt_ (box_below w2 _) (box_below _ _)) n3) (box_below _ _)) n4) (box_below _ _))) (RI.oneN _ 2 _ (by unfold Fit; omega) 3 (by show (World.heap ((((w2.alloc _).alloc _).drewN n3).alloc _)).size = _; simp))).mono ?_
  rw [decide_eq_true (rfl : ([2] : List Int) = [2])]
  rintro e w5 ⟨rfl, n5, rfl⟩
  go_wp2
  go_ret
  exact ⟨rfl, bt_ HB3.out (below_dn (bt_ (below_dn (bt_ (below_dn (bt_ (box_below w2 _) (box_below _ _)) n3) (box_below _ _)) n4) (box_below _ _)) n5)⟩
end Go.Proofs.Ytkgdnlknnjiglaa
