/- Contract of package float's sum, one way through it (sub0); premises as written. -/
import Derived.Test.YtfdenbgmogojeaaDoorFloR
import Derived.RegionTactic
namespace Go.Proofs.YtfdenbgmogojeaaDoor
open Go.RowKit

set_option maxHeartbeats 8000000 in
theorem sum_c3 (cx xs xm ex cy ys ym ey : Int) (hx : M54 xm) (hy : M54 ym) (ho : Ord xm ym (ex - ey).toNat) (he : ey ≤ ex) (e0 : -100000 ≤ ey) (e1 : ex ≤ 100000) (hs : ¬ xs = ys) (hc : ¬ xm < hiP (nn ym 0 / 2 ^ (ex - ey).toNat)) (hL : lostB (nn ym 0) (ex - ey).toNat = false) (w : World) :
    Calls Tryd.prog 97 #[num cx xs xm ex, num cy ys ym ey] w fun e w' => e = .returned (exa (sumS xs xm ys ym (ex - ey).toNat) (hiP (sumN xs xm ys ym (ex - ey).toNat)) (loP (sumN xs xm ys ym (ex - ey).toNat)) (ex - 64) (lostB (nn ym 0) (ex - ey).toNat)) ∧ Below w.heap.size w w' := by
  have h1 := Lib.hid (sum_sub xs xm ys ym (ex - ey).toNat 0 hx hy ho hs hc (by rw [hL]; rfl))
  have h2 := Lib.hid (show xs = sumS xs xm ys ym (ex - ey).toNat by unfold sumS; rw [if_neg hs, if_neg hc])
  have hcc : hiP (nn ym 0 / 2 ^ (ex - ey).toNat) ≤ xm := by omega
  clear hc
  have hyu := Lib.hid (show U64 ym from ⟨hy.1, by have := hy.2; omega⟩)
  have hss : (xs == ys) = false := by simp [hs]
  obtain ⟨j, hj⟩ : ∃ j, j = (ex - ey).toNat := ⟨_, rfl⟩
  rw [← hj] at h1 h2 hcc hL ⊢
  have Hj := Lib.hid hj; clear hj
  clear hs ho
  have s1 := run_sub64 0 (loP (nn ym 0 / 2 ^ j)) 0 (by simp)
  have s2 := run_sub64 xm (hiP (nn ym 0 / 2 ^ j)) (subB 0 (loP (nn ym 0 / 2 ^ j)) 0) (by unfold subB; split <;> simp)
  go_enter Tryd.func97, Tryd.ntmps97
  go_wp2_with fail
  refine (shift_c ym 0 (ex - ey) hyu.out (by unfold U64; omega) (by omega) _).mono ?_
  rw [← Hj.out]
  rintro e w1 ⟨rfl, hb⟩
  obtain ⟨hX, hY, hR, hB, hlt⟩ := box3 (xs := [_, _, _, _]) (ys := [_, _, _, _]) (zs := [_, _, _, _]) hb
  clear hb
  obtain ⟨a0, a1, a2, a3⟩ := hX.c4
  obtain ⟨b0, b1, b2, b3⟩ := hY.c4
  obtain ⟨r0, r1, r2, r3, r4⟩ := hR.c5
  obtain ⟨f0, f1, f2, f3, f4⟩ := hR.f5
  have hlt0 : w.heap.size < w1.heap.size := by omega
  have hlt1 : w.heap.size + 1 < w1.heap.size := by omega
  go_wp2
  refine bodyPost_ret (res77 _ (w.heap.size + 1 + 1) _ _ _ _ _ _ rfl ((((((hR.set).set).set).set).set).alloc _)) rfl ⟨ret_exa h2.out h1.out.1 h1.out.2 rfl (by first | rfl | exact hL.symm), (((((hB.st (by omega)).st (by omega)).st (by omega)).st (by omega)).st (by omega)).alloc (by simp; omega) _⟩

end Go.Proofs.YtfdenbgmogojeaaDoor
