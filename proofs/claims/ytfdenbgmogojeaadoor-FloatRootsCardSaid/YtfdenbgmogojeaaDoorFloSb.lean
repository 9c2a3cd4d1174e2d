/- Contracts of package float's sub and Sub, for every kind, mode and two floats of it: the sum with the other one's opposite. -/
import Derived.Test.YtfdenbgmogojeaaDoorFloX
namespace Go.Proofs.YtfdenbgmogojeaaDoor
open Go.RowKit

/-- The difference of two floats that are numbers; of any two. -/
def opSub (W D mode a b : Int) : Int × Int := numAdd W D mode (cls D (siz W a)) (sgn W a) (mant D (siz W a)) (expo D (siz W a)) (cls D (siz W b)) (1 - sgn W b) (mant D (siz W b)) (expo D (siz W b))
def subF (W D mode a b : Int) : Int × Int := if cls D (siz W a) = 4 ∨ cls D (siz W b) = 4 then (jn W 0 (qz D), 0) else opSub W D mode a b
theorem fin2_flip {sx mx ex sy my ey : Int} (h : Fin2 sx mx ex sy my ey) : Fin2 sx mx ex (1 - sy) my ey := by
  obtain ⟨a, b, c, d, e, f, g, i, j, k⟩ := h
  exact ⟨a, by unfold Sgn at b ⊢; omega, c, d, e, f, g, i, j, k⟩

set_option maxHeartbeats 1000000 in
theorem sub_c (W D E mode cx sx mx ex cy sy my ey : Int) (h : KL W D E) (hm : Mode mode) (hsx : Sgn sx) (hsy : Sgn sy) (hf : ¬ cx = 3 → ¬ cy = 3 → Fin2 sx mx ex (1 - sy) my ey) (w : World) :
    Calls Tryd.prog 61 #[lay W D E, .int .i64 mode, num cx sx mx ex, num cy sy my ey] w fun e w' => e = .returned (.tuple #[.int .i64 (numAdd W D mode cx sx mx ex cy (1 - sy) my ey).1, .int .i64 (numAdd W D mode cx sx mx ex cy (1 - sy) my ey).2]) ∧ Below w.heap.size w w' := by
  have Hadd := Lib.hid (fun w' => add_c W D E mode cx sx mx ex cy (1 - sy) my ey h hm hsx (by unfold Sgn at hsy ⊢; omega) hf w')
  clear hf hm hsx h
  rcases hsy with rfl | rfl
  · rw [show (1 : Int) - 0 = 1 from rfl] at Hadd ⊢
    go_enter Tryd.func61, Tryd.ntmps61
    go_wp2_with fail
    refine (Hadd.out _).mono ?_
    rintro e w2 ⟨rfl, hb⟩
    have hB : Below w.heap.size w w2 := bt (by go_grown) hb
    go_wp2_with fail
    go_ret2
    exact ⟨rfl, hB⟩
  · rw [show (1 : Int) - 1 = 0 from rfl] at Hadd ⊢
    go_enter Tryd.func61, Tryd.ntmps61
    go_wp2_with fail
    refine (Hadd.out _).mono ?_
    rintro e w2 ⟨rfl, hb⟩
    have hB : Below w.heap.size w w2 := bt (by go_grown) hb
    go_wp2_with fail
    go_ret2
    exact ⟨rfl, hB⟩
theorem opSub_c (W D E mode a b : Int) (h : KL W D E) (hm : Mode mode) (_ha : okB W a = true) (_hb : okB W b = true) (ca : ¬ cls D (siz W a) = 4) (cb : ¬ cls D (siz W b) = 4) (w : World) :
    Calls Tryd.prog 61 #[lay W D E, .int .i64 mode, num (cls D (siz W a)) (sgn W a) (mant D (siz W a)) (expo D (siz W a)), num (cls D (siz W b)) (sgn W b) (mant D (siz W b)) (expo D (siz W b))] w fun e w' => e = .returned (.tuple #[.int .i64 (subF W D mode a b).1, .int .i64 (subF W D mode a b).2]) ∧ Below w.heap.size w w' := by
  have e : subF W D mode a b = opSub W D mode a b := by unfold subF; rw [if_neg (by rintro (q | q); exact ca q; exact cb q)]
  rw [e]
  exact sub_c W D E mode _ _ _ _ _ _ _ _ h hm (sgn_s W a) (sgn_s W b) (fun c1 c2 => fin2_flip (fin2_of W D E a b h (cls_le2 D _ c1 ca) (cls_le2 D _ c2 cb))) w

set_option maxRecDepth 100000 in
set_option maxHeartbeats 4000000 in
theorem two_sub (k W D E mode a b : Int) (hk : KK k W D E) (hm : Mode mode) (ha : okB W a = true) (hb' : okB W b = true)
    (w : World) :
    Calls Tryd.prog 49 #[.int .i64 k, .int .i64 mode, .int .i64 a, .int .i64 b, .func (.func 61) #[] #[]] w fun e w' => e = .returned (.tuple #[.int .i64 (subF W D mode a b).1, .int .i64 (subF W D mode a b).2, .int .i64 0]) ∧ Below w.heap.size w w' := by
  have h := hk.kl
  have Hk := Lib.hid hk; clear hk
  go_enter Tryd.func49, Tryd.ntmps49
  go_wp2_with fail
  refine (layoutOf_c k W D E Hk.out _).mono ?_
  rintro e wa ⟨rfl, hb⟩
  have hP0 := hb.size
  have hB := hb.alloc hb.size (.cells #[.int .i64 W, .int .i64 D, .int .i64 E] 48)
  have hL := Has.new wa [.int .i64 W, .int .i64 D, .int .i64 E] 48
  clear hb
  go_wp2_with fail
  refine (isMode_c mode hm _).mono ?_
  rintro e w1 ⟨rfl, rfl⟩
  go_wp2_with fail
  refine (holds_c W D E a h _).mono ?_
  rintro e w1 ⟨rfl, hb⟩
  have hB := bt hB hb
  have hL := hL.keep hb
  clear hb
  obtain ⟨l0, l1, l2⟩ := hL.c3
  go_wp2_with fail
  refine (holds_c W D E b h _).mono ?_
  rintro e w1 ⟨rfl, hb⟩
  have hB := bt hB hb
  have hL := hL.keep hb
  clear hb
  obtain ⟨l0, l1, l2⟩ := hL.c3
  go_wp2_with fail
  have hsz := hB.size
  have hPl := hL.lt
  have hP : w.heap.size ≤ wa.heap.size := hP0
  go_cut [15, 16] (fun x y wr => ∃ X Y : Nat, x = .pointer (some ⟨X, 0, none⟩) ∧ y = .pointer (some ⟨Y, 0, none⟩) ∧ wa.heap.size < X ∧ wa.heap.size < Y ∧ X ≠ Y ∧ Has wr X [.int .i64 (cls D (siz W a)), .int .i64 (sgn W a), .int .u64 (mant D (siz W a)), .int .i64 (expo D (siz W a))] ∧ Has wr Y [.int .i64 (cls D (siz W b)), .int .i64 (sgn W b), .int .u64 (mant D (siz W b)), .int .i64 (expo D (siz W b))] ∧ Has wr wa.heap.size [.int .i64 W, .int .i64 D, .int .i64 E] ∧ Below w.heap.size w wr)
  case first =>
    go_region_held3 (fun w' => Below w.heap.size w w' ∧ w'.cell? ⟨wa.heap.size, 0, none⟩ = some (.int .i64 W) ∧ w'.cell? ⟨wa.heap.size, 1, none⟩ = some (.int .i64 D) ∧ w'.cell? ⟨wa.heap.size, 2, none⟩ = some (.int .i64 E))
      (exact keepH (by repeat (with_reducible (first | exact hB | refine Below.al ?_ _ | refine Below.drew ?_ | refine Below.st ?_ (by omega)))) (by repeat (with_reducible (first | exact hL | refine Has.alloc ?_ _ | refine Has.drew ?_ | refine Has.far ?_ (by omega)))))
      (first | (go_at_call 72; refine (open_c W D E _ h (by first | exact ha | exact hb') _).mono ?_; rintro e w' ⟨rfl, hb⟩; have hBn : Below w.heap.size w w' := (by first | exact bt hB hb | exact bt hB.drew hb | exact bt (hB.alloc hB.size _) hb | exact bt (hB.alloc hB.size _).drew hb | exact bt ((hB.alloc hB.size _).alloc (hB.alloc hB.size _).size _) hb | exact bt ((hB.alloc hB.size _).alloc (hB.alloc hB.size _).size _).drew hb); have hLn : Has w' wa.heap.size [.int .i64 W, .int .i64 D, .int .i64 E] := (by first | exact hL.keep hb | exact hL.drew.keep hb | exact (hL.alloc _).keep hb | exact (hL.alloc _).drew.keep hb | exact ((hL.alloc _).alloc _).keep hb | exact ((hL.alloc _).alloc _).drew.keep hb); (try have z1 := z1.keep hb); (try have z1 := (z1.alloc _).keep hb); (try have z1 := ((z1.alloc _).alloc _).keep hb); (try have z2 := z2.keep hb); (try have z2 := (z2.alloc _).keep hb); (try have z2 := ((z2.alloc _).alloc _).keep hb); (first | (have zq := nz2 hb; obtain ⟨z3, z4⟩ := zq) | (have zq := nz2d hb; obtain ⟨z1, z2⟩ := zq) | (have z3 := nz1 hb) | (have z1 := nz1d hb) | skip); (try have z1l := z1.lt); (try obtain ⟨z10, z11, z12, z13⟩ := z1.c4); (try obtain ⟨z14, z15, z16, z17⟩ := z1.f4); (try have z2l := z2.lt); (try obtain ⟨z20, z21, z22, z23⟩ := z2.c4); (try obtain ⟨z24, z25, z26, z27⟩ := z2.f4); (try have z3l := z3.lt); (try obtain ⟨z30, z31, z32, z33⟩ := z3.c4); (try obtain ⟨z34, z35, z36, z37⟩ := z3.f4); (try have z4l := z4.lt); (try obtain ⟨z40, z41, z42, z43⟩ := z4.c4); (try obtain ⟨z44, z45, z46, z47⟩ := z4.f4); have hB := hBn; have hL := hLn; have hPl := hL.lt; have hsz := hB.size; obtain ⟨l0, l1, l2⟩ := hL.c3))
    all_goals
      go_wp2_with fail
      go_meet
      refine ⟨_, _, rfl, rfl, ?_, ?_, ?_, ?_, ?_, ?_, ?_⟩
      · omega
      · omega
      · omega
      · first
          | with_reducible exact (Has.new _ [_, _, _, _] _).alloc _
          | with_reducible exact Has.new1 _ _ [_, _, _, _] _
          | with_reducible exact Has.new4 _ _ _ _ _ _ _ _ _ _ [_, _, _, _] _
          | ((repeat (with_reducible (first | assumption | refine Has.set4 (p := .int .i64 0) (q := .int .i64 0) (r := .int .u64 0) (s := .int .i64 0) ?_ | refine Has.alloc ?_ _ | refine Has.far ?_ (by omega)))); done)
      · first
          | with_reducible exact (Has.new _ [_, _, _, _] _).alloc _
          | with_reducible exact Has.new1 _ _ [_, _, _, _] _
          | with_reducible exact Has.new4 _ _ _ _ _ _ _ _ _ _ [_, _, _, _] _
          | ((repeat (with_reducible (first | assumption | refine Has.set4 (p := .int .i64 0) (q := .int .i64 0) (r := .int .u64 0) (s := .int .i64 0) ?_ | refine Has.alloc ?_ _ | refine Has.far ?_ (by omega)))); done)
      · repeat (with_reducible (first | exact hL | refine Has.alloc ?_ _ | refine Has.drew ?_ | refine Has.far ?_ (by omega)))
      · repeat (with_reducible (first | exact hB | refine Below.al ?_ _ | refine Below.drew ?_ | refine Below.st ?_ (by omega)))
  case rest =>
    obtain ⟨X, Y, rfl, rfl, hXP, hYP, hXY, hX, hY, hL, hB⟩ := hcut
    obtain ⟨l0, l1, l2⟩ := hL.c3
    obtain ⟨x0, x1, x2, x3⟩ := hX.c4
    obtain ⟨y0, y1, y2, y3⟩ := hY.c4
    by_cases ca : cls D (siz W a) = 4
    · have ea : (cls D (siz W a) == 4) = true := by simp [ca]
      have hN := Lib.hid (show subF W D mode a b = (jn W 0 (qz D), 0) by unfold subF; rw [if_pos (.inl ca)])
      clear ca
      go_wp2_with fail
      refine (quiet_c W D E h _).mono ?_
      rintro e w2 ⟨rfl, hb⟩
      go_wp2
      go_ret3
      exact ⟨by rw [hN.out]; rfl, bt hB hb⟩
    by_cases cb : cls D (siz W b) = 4
    · have ea : (cls D (siz W a) == 4) = false := by simp [ca]
      have eb : (cls D (siz W b) == 4) = true := by simp [cb]
      have hN := Lib.hid (show subF W D mode a b = (jn W 0 (qz D), 0) by unfold subF; rw [if_pos (.inr cb)])
      clear ca cb
      go_wp2_with fail
      refine (quiet_c W D E h _).mono ?_
      rintro e w2 ⟨rfl, hb⟩
      go_wp2
      go_ret3
      exact ⟨by rw [hN.out]; rfl, bt hB hb⟩
    have ea : (cls D (siz W a) == 4) = false := by simp [ca]
    have eb : (cls D (siz W b) == 4) = false := by simp [cb]
    have hO := Lib.hid (opSub_c W D E mode a b h hm ha hb' ca cb)
    clear ca cb
    go_wp2_with fail
    refine (hO.out _).mono ?_
    rintro e w2 ⟨rfl, hb⟩
    go_wp2
    go_ret3
    exact ⟨rfl, bt hB hb⟩

set_option maxHeartbeats 1000000 in
theorem Sub_c (k W D E mode a b : Int) (hk : KK k W D E) (hm : Mode mode) (ha : okB W a = true) (hb' : okB W b = true) (w : World) :
    Calls Tryd.prog 17 #[.int .i64 k, .int .i64 mode, .int .i64 a, .int .i64 b] w fun e w' => e = .returned (.tuple #[.int .i64 (subF W D mode a b).1, .int .i64 (subF W D mode a b).2, .int .i64 0]) ∧ Below w.heap.size w w' := by
  have H := Lib.hid (two_sub k W D E mode a b hk hm ha hb')
  clear hk hm ha hb'
  go_enter Tryd.func17, Tryd.ntmps17
  go_wp2_with fail
  refine (H.out _).mono ?_
  rintro e w1 ⟨rfl, hb⟩
  go_wp2
  go_ret3
  exact ⟨rfl, hb⟩
end Go.Proofs.YtfdenbgmogojeaaDoor
