/- Contracts of package float's sum and of layout's add: the rounded exact sum of two floats that are taken apart, and its flags; premises as written. -/
import Derived.Test.YtfdenbgmogojeaaDoorFloR1
import Derived.Test.YtfdenbgmogojeaaDoorFloR2
import Derived.Test.YtfdenbgmogojeaaDoorFloR3
import Derived.Test.YtfdenbgmogojeaaDoorFloR4
import Derived.Test.YtfdenbgmogojeaaDoorFloR1s
import Derived.Test.YtfdenbgmogojeaaDoorFloR2s
import Derived.Test.YtfdenbgmogojeaaDoorFloR3s
import Derived.Test.YtfdenbgmogojeaaDoorFloR4s
import Derived.Test.YtfdenbgmogojeaaDoorFloS
import Derived.Test.YtfdenbgmogojeaaDoorFloG
namespace Go.Proofs.YtfdenbgmogojeaaDoor
open Go.RowKit

theorem sum_c (cx sx mx ex cy sy my ey : Int) (h : Fin2 sx mx ex sy my ey) (w : World) :
    Calls Tryd.prog 97 #[num cx sx mx ex, num cy sy my ey] w fun e w' => e = .returned (exa (fS sx mx ex sy my ey) (hiP (fN sx mx ex sy my ey)) (loP (fN sx mx ex sy my ey)) (fE ex ey) (fL mx ex my ey)) ∧ Below w.heap.size w w' := by
  obtain ⟨_, _, hmx, hmy, x0, x1, y0, y1, o1, o2⟩ := h
  unfold fS fN fE fL
  by_cases c : ex < ey
  · simp only [if_pos c]
    by_cases hs : sy = sx
    · exact sum_c1s cy sy my ey cx sx mx ex hmy hmx (o2 (by omega)) c (by omega) (by omega) hs w
    by_cases hc : my < hiP (nn mx 0 / 2 ^ (ey - ex).toNat)
    · exact sum_c2s cy sy my ey cx sx mx ex hmy hmx (o2 (by omega)) c (by omega) (by omega) hs hc w
    cases hL : lostB (nn mx 0) (ey - ex).toNat
    · have := sum_c3s cy sy my ey cx sx mx ex hmy hmx (o2 (by omega)) c (by omega) (by omega) hs hc hL w
      rw [hL] at this; exact this
    · have := sum_c4s cy sy my ey cx sx mx ex hmy hmx (o2 (by omega)) c (by omega) (by omega) hs hc hL w
      rw [hL] at this; exact this
  · simp only [if_neg c]
    by_cases hs : sx = sy
    · exact sum_c1 cx sx mx ex cy sy my ey hmx hmy (o1 (by omega)) (by omega) (by omega) (by omega) hs w
    by_cases hc : mx < hiP (nn my 0 / 2 ^ (ex - ey).toNat)
    · exact sum_c2 cx sx mx ex cy sy my ey hmx hmy (o1 (by omega)) (by omega) (by omega) (by omega) hs hc w
    cases hL : lostB (nn my 0) (ex - ey).toNat
    · have := sum_c3 cx sx mx ex cy sy my ey hmx hmy (o1 (by omega)) (by omega) (by omega) (by omega) hs hc hL w
      rw [hL] at this; exact this
    · have := sum_c4 cx sx mx ex cy sy my ey hmx hmy (o1 (by omega)) (by omega) (by omega) (by omega) hs hc hL w
      rw [hL] at this; exact this

theorem box3' {w w1 : World} {xs ys zs : List Value} {t u v : TypeId} {z : Value}
    (hb : Below (((w.alloc (.cells xs.toArray t)).alloc (.cells ys.toArray u)).alloc (.cells (z :: zs).toArray v)).heap.size (((w.alloc (.cells xs.toArray t)).alloc (.cells ys.toArray u)).alloc (.cells (z :: zs).toArray v)) w1) :
    Has w1 w.heap.size xs ∧ Has w1 (w.heap.size + 1) ys ∧ Has w1 (w.heap.size + 1 + 1) (z :: zs) ∧ Below w.heap.size w w1 ∧ w.heap.size + 1 + 1 < w1.heap.size := box3 hb

set_option maxHeartbeats 4000000 in
theorem add_cA (W D E mode cx sx mx ex cy sy my ey : Int) (h : KL W D E) (c1 : cx = 3) (c2 : cy = 3) (c3 : sx ≠ sy) (w : World) :
    Calls Tryd.prog 50 #[lay W D E, .int .i64 mode, num cx sx mx ex, num cy sy my ey] w fun e w' => e = .returned (.tuple #[.int .i64 (numAdd W D mode cx sx mx ex cy sy my ey).1, .int .i64 (numAdd W D mode cx sx mx ex cy sy my ey).2]) ∧ Below w.heap.size w w' := by
  have hN := Lib.hid (show numAdd W D mode cx sx mx ex cy sy my ey = (jn W 0 (qz D), 1) by unfold numAdd; rw [if_pos ⟨c1, c2, c3⟩])
  subst c1 c2
  have e3 : (sx != sy) = true := by simp [c3]
  clear c3
  go_enter Tryd.func50, Tryd.ntmps50
  go_wp2_with (first | (go_at_call 89; refine (quiet_c W D E h _).mono ?_; rintro e w1 ⟨rfl, hb⟩) | go_in)
  go_ret2
  exact ⟨by rw [hN.out]; rfl, bt (by go_grown) hb⟩

set_option maxHeartbeats 4000000 in
theorem add_cB (W D E mode cx sx mx ex cy sy my ey : Int) (h : KL W D E) (hsx : Sgn sx) (c1 : cx = 3) (c2 : ¬ (cy = 3 ∧ sx ≠ sy)) (w : World) :
    Calls Tryd.prog 50 #[lay W D E, .int .i64 mode, num cx sx mx ex, num cy sy my ey] w fun e w' => e = .returned (.tuple #[.int .i64 (numAdd W D mode cx sx mx ex cy sy my ey).1, .int .i64 (numAdd W D mode cx sx mx ex cy sy my ey).2]) ∧ Below w.heap.size w w' := by
  have hN := Lib.hid (show numAdd W D mode cx sx mx ex cy sy my ey = (jn W sx (endl D), 0) by unfold numAdd; rw [if_neg (fun q => c2 q.2), if_pos c1])
  subst c1
  have hss := Lib.hid hsx; clear hsx
  by_cases d : cy = 3
  · have e3 : (sx != sy) = false := by simp; exact Classical.byContradiction fun q => c2 ⟨d, q⟩
    subst d
    clear c2
    go_enter Tryd.func50, Tryd.ntmps50
    go_wp2_with (first | (go_at_call 90; refine (infinite_c W D E _ h hss.out _).mono ?_; rintro e w1 ⟨rfl, hb⟩) | go_in)
    go_ret2
    exact ⟨by rw [hN.out]; rfl, bt (by go_grown) hb⟩
  · have e4 : (cy == 3) = false := by simp [d]
    clear d c2
    go_enter Tryd.func50, Tryd.ntmps50
    go_wp2_with (first | (go_at_call 90; refine (infinite_c W D E _ h hss.out _).mono ?_; rintro e w1 ⟨rfl, hb⟩) | go_in)
    go_ret2
    exact ⟨by rw [hN.out]; rfl, bt (by go_grown) hb⟩

set_option maxHeartbeats 4000000 in
theorem add_cC (W D E mode cx sx mx ex cy sy my ey : Int) (h : KL W D E) (hsy : Sgn sy) (c1 : ¬ cx = 3) (c2 : cy = 3) (w : World) :
    Calls Tryd.prog 50 #[lay W D E, .int .i64 mode, num cx sx mx ex, num cy sy my ey] w fun e w' => e = .returned (.tuple #[.int .i64 (numAdd W D mode cx sx mx ex cy sy my ey).1, .int .i64 (numAdd W D mode cx sx mx ex cy sy my ey).2]) ∧ Below w.heap.size w w' := by
  have hN := Lib.hid (show numAdd W D mode cx sx mx ex cy sy my ey = (jn W sy (endl D), 0) by unfold numAdd; rw [if_neg (fun q => c1 q.1), if_neg c1, if_pos c2])
  subst c2
  have hss := Lib.hid hsy; clear hsy
  have e4 : (cx == 3) = false := by simp [c1]
  clear c1
  go_enter Tryd.func50, Tryd.ntmps50
  go_wp2_with (first | (go_at_call 90; refine (infinite_c W D E _ h hss.out _).mono ?_; rintro e w1 ⟨rfl, hb⟩) | go_in)
  go_ret2
  exact ⟨by rw [hN.out]; rfl, bt (by go_grown) hb⟩
end Go.Proofs.YtfdenbgmogojeaaDoor
