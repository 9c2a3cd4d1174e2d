/- Package float's Add: for every kind, mode and two floats the rounded exact sum and its flags. -/
import Derived.Test.YtfdenbgmogojeaaDoorFloV
namespace Go.Proofs.YtfdenbgmogojeaaDoor
open Go.RowKit

theorem sgn_s (W a : Int) : Sgn (sgn W a) := by unfold sgn Sgn; split <;> simp
theorem hid_b (W D E : Int) (h : KL W D E) : 1024 ≤ hid D ∧ hid D ≤ 4503599627370496 ∧ hid D * 2 ≤ endl D ∧ -1074 ≤ low D ∧ low D ≤ -24 := by
  rcases h with ⟨rfl, rfl, rfl⟩ | ⟨rfl, rfl, rfl⟩ | ⟨rfl, rfl, rfl⟩ <;> decide
/-- The number of a float, by its class. -/
theorem mant_b (W D E z : Int) (h : KL W D E) (z0 : 0 ≤ z) (_z1 : z < hf W) : 0 ≤ mant D z ∧ mant D z < 2 * hid D ∧ (cls D z = 2 → hid D ≤ mant D z) := by
  obtain ⟨h1, h2, h3, _, _⟩ := hid_b W D E h
  have hm := Int.emod_nonneg z (show hid D ≠ 0 by omega)
  have hl := Int.emod_lt_of_pos z (show 0 < hid D by omega)
  unfold mant
  by_cases c1 : cls D z ≤ 1
  · rw [if_pos c1]
    have : z < hid D := by
      unfold cls at c1; repeat' split at c1
      all_goals omega
    exact ⟨z0, by omega, fun e => by omega⟩
  · rw [if_neg c1]
    by_cases c2 : cls D z = 2
    · rw [if_pos c2]; exact ⟨by omega, by omega, fun _ => by omega⟩
    · rw [if_neg c2]; exact ⟨by omega, by omega, fun e => absurd e c2⟩
theorem endl_hid (W D E : Int) (h : KL W D E) : endl D / hid D ≤ 2047 := by
  rcases h with ⟨rfl, rfl, rfl⟩ | ⟨rfl, rfl, rfl⟩ | ⟨rfl, rfl, rfl⟩ <;> decide
theorem expo_b (W D E z : Int) (h : KL W D E) (_z0 : 0 ≤ z) (hc : cls D z ≤ 2) : low D ≤ expo D z ∧ expo D z ≤ 1000 ∧ (cls D z ≤ 1 → expo D z = low D) := by
  obtain ⟨h1, h2, h3, h4, h5⟩ := hid_b W D E h
  have h6 := endl_hid W D E h
  unfold expo
  by_cases c1 : cls D z ≤ 1
  · rw [if_pos c1]; exact ⟨by omega, by omega, fun _ => rfl⟩
  · rw [if_neg c1, if_pos (by omega)]
    have hz : hid D ≤ z ∧ z < endl D := by
      have : cls D z = 2 := by omega
      unfold cls at this; repeat' split at this
      all_goals omega
    have q1 : 1 ≤ z / hid D := (Int.le_ediv_iff_mul_le (by omega)).2 (by omega)
    have q2 : z / hid D ≤ endl D / hid D := Int.ediv_le_ediv (by omega) (by omega)
    have hlow : low D + 2046 ≤ 1000 ∨ D ≠ 53 := by by_cases e : D = 53 <;> simp [e, low]
    refine ⟨by omega, ?_, fun e => absurd e c1⟩
    rcases h with ⟨rfl, rfl, rfl⟩ | ⟨rfl, rfl, rfl⟩ | ⟨rfl, rfl, rfl⟩
    · have : endl 11 / hid 11 = 31 := by decide
      have : low 11 = -24 := rfl
      omega
    · have : endl 24 / hid 24 = 255 := by decide
      have : low 24 = -149 := rfl
      omega
    · have : endl 53 / hid 53 = 2047 := by decide
      have : low 53 = -1074 := rfl
      omega
theorem ord_of (W D E za zb : Int) (h : KL W D E) (a0 : 0 ≤ za) (a1 : za < hf W) (b0 : 0 ≤ zb) (b1 : zb < hf W) (ca : cls D za ≤ 2) (cb : cls D zb ≤ 2) (he : expo D zb ≤ expo D za) :
    Ord (mant D za) (mant D zb) (expo D za - expo D zb).toNat := by
  obtain ⟨m0, m1, m2⟩ := mant_b W D E za h a0 a1
  obtain ⟨n0, n1, _⟩ := mant_b W D E zb h b0 b1
  obtain ⟨e1, _, e3⟩ := expo_b W D E za h a0 ca
  obtain ⟨f1, _, _⟩ := expo_b W D E zb h b0 cb
  by_cases c : expo D za = expo D zb
  · left; omega
  · right
    have c2 : cls D za = 2 := by
      have : ¬ cls D za ≤ 1 := fun q => by have := e3 q; omega
      omega
    have := m2 c2
    have hd : 2 ≤ 2 ^ (expo D za - expo D zb).toNat := by
      have : (2 : Nat) ^ 1 ≤ 2 ^ (expo D za - expo D zb).toNat := Nat.pow_le_pow_right (by decide) (by omega)
      omega
    have q : (mant D zb).toNat / 2 ^ (expo D za - expo D zb).toNat ≤ (mant D zb).toNat / 2 := Nat.div_le_div_left hd (by decide)
    omega
theorem cls_le2 (D z : Int) (h3 : ¬ cls D z = 3) (h4 : ¬ cls D z = 4) : cls D z ≤ 2 := by
  unfold cls at *; repeat' split at h3
  all_goals first | omega | simp_all
theorem fin2_of (W D E a b : Int) (h : KL W D E) (ca : cls D (siz W a) ≤ 2) (cb : cls D (siz W b) ≤ 2) :
    Fin2 (sgn W a) (mant D (siz W a)) (expo D (siz W a)) (sgn W b) (mant D (siz W b)) (expo D (siz W b)) := by
  obtain ⟨a0, a1⟩ := siz_b W D E a h
  obtain ⟨b0, b1⟩ := siz_b W D E b h
  obtain ⟨h1, h2, h3, h4, h5⟩ := hid_b W D E h
  obtain ⟨m0, m1, _⟩ := mant_b W D E _ h a0 a1
  obtain ⟨n0, n1, _⟩ := mant_b W D E _ h b0 b1
  obtain ⟨e1, e2, _⟩ := expo_b W D E _ h a0 ca
  obtain ⟨f1, f2, _⟩ := expo_b W D E _ h b0 cb
  exact ⟨sgn_s W a, sgn_s W b, ⟨m0, by omega⟩, ⟨n0, by omega⟩, by omega, e2, by omega, f2, fun he => ord_of W D E _ _ h a0 a1 b0 b1 ca cb he, fun he => ord_of W D E _ _ h b0 b1 a0 a1 cb ca he⟩

/-- The sum of two floats that are numbers; of any two. -/
def opAdd (W D mode a b : Int) : Int × Int := numAdd W D mode (cls D (siz W a)) (sgn W a) (mant D (siz W a)) (expo D (siz W a)) (cls D (siz W b)) (sgn W b) (mant D (siz W b)) (expo D (siz W b))
def addF (W D mode a b : Int) : Int × Int := if cls D (siz W a) = 4 ∨ cls D (siz W b) = 4 then (jn W 0 (qz D), 0) else opAdd W D mode a b
theorem opAdd_c (W D E mode a b : Int) (h : KL W D E) (hm : Mode mode) (_ha : okB W a = true) (_hb : okB W b = true) (ca : ¬ cls D (siz W a) = 4) (cb : ¬ cls D (siz W b) = 4) (w : World) :
    Calls Tryd.prog 50 #[lay W D E, .int .i64 mode, num (cls D (siz W a)) (sgn W a) (mant D (siz W a)) (expo D (siz W a)), num (cls D (siz W b)) (sgn W b) (mant D (siz W b)) (expo D (siz W b))] w fun e w' => e = .returned (.tuple #[.int .i64 (addF W D mode a b).1, .int .i64 (addF W D mode a b).2]) ∧ Below w.heap.size w w' := by
  have e : addF W D mode a b = opAdd W D mode a b := by unfold addF; rw [if_neg (by rintro (q | q); exact ca q; exact cb q)]
  rw [e]
  exact add_c W D E mode _ _ _ _ _ _ _ _ h hm (sgn_s W a) (sgn_s W b) (fun c1 c2 => fin2_of W D E a b h (cls_le2 D _ c1 ca) (cls_le2 D _ c2 cb)) w

set_option maxRecDepth 100000 in
set_option maxHeartbeats 4000000 in
theorem two_add (k W D E mode a b : Int) (hk : KK k W D E) (hm : Mode mode) (ha : okB W a = true) (hb' : okB W b = true)
    (w : World) :
    Calls Tryd.prog 49 #[.int .i64 k, .int .i64 mode, .int .i64 a, .int .i64 b, .func (.func 50) #[] #[]] w fun e w' => e = .returned (.tuple #[.int .i64 (addF W D mode a b).1, .int .i64 (addF W D mode a b).2, .int .i64 0]) ∧ Below w.heap.size w w' := by
  have h := hk.kl
  have Hk := Lib.hid hk; clear hk
  go_enter Tryd.func49, Tryd.ntmps49
  go_wp2_with fail
  refine (layoutOf_c k W D E Hk.out _).mono ?_
  rintro e wa ⟨rfl, hb⟩
  have hP0 := hb.size
  have hB := hb.alloc hb.size (.cells #[.int .i64 W, .int .i64 D, .int .i64 E] 48)
  have hL := Has.new wa [.int .i64 W, .int .i64 D, .int .i64 E] 48
  clear hb
  go_wp2_with fail
  refine (isMode_c mode hm _).mono ?_
  rintro e w1 ⟨rfl, rfl⟩
  go_wp2_with fail
  refine (holds_c W D E a h _).mono ?_
  rintro e w1 ⟨rfl, hb⟩
  have hB := bt hB hb
  have hL := hL.keep hb
  clear hb
  obtain ⟨l0, l1, l2⟩ := hL.c3
  go_wp2_with fail
  refine (holds_c W D E b h _).mono ?_
  rintro e w1 ⟨rfl, hb⟩
  have hB := bt hB hb
  have hL := hL.keep hb
  clear hb
  obtain ⟨l0, l1, l2⟩ := hL.c3
  go_wp2_with fail
  have hsz := hB.size
  have hPl := hL.lt
  have hP : w.heap.size ≤ wa.heap.size := hP0
  go_cut [15, 16] (fun x y wr => ∃ X Y : Nat, x = .pointer (some ⟨X, 0, none⟩) ∧ y = .pointer (some ⟨Y, 0, none⟩) ∧ wa.heap.size < X ∧ wa.heap.size < Y ∧ X ≠ Y ∧ Has wr X [.int .i64 (cls D (siz W a)), .int .i64 (sgn W a), .int .u64 (mant D (siz W a)), .int .i64 (expo D (siz W a))] ∧ Has wr Y [.int .i64 (cls D (siz W b)), .int .i64 (sgn W b), .int .u64 (mant D (siz W b)), .int .i64 (expo D (siz W b))] ∧ Has wr wa.heap.size [.int .i64 W, .int .i64 D, .int .i64 E] ∧ Below w.heap.size w wr)
  case first =>
    go_region_held3 (fun w' => Below w.heap.size w w' ∧ w'.cell? ⟨wa.heap.size, 0, none⟩ = some (.int .i64 W) ∧ w'.cell? ⟨wa.heap.size, 1, none⟩ = some (.int .i64 D) ∧ w'.cell? ⟨wa.heap.size, 2, none⟩ = some (.int .i64 E))
      (exact keepH (by repeat (with_reducible (first | exact hB | refine Below.al ?_ _ | refine Below.drew ?_ | refine Below.st ?_ (by omega)))) (by repeat (with_reducible (first | exact hL | refine Has.alloc ?_ _ | refine Has.drew ?_ | refine Has.far ?_ (by omega)))))
      (first | (go_at_call 72; refine (open_c W D E _ h (by first | exact ha | exact hb') _).mono ?_; rintro e w' ⟨rfl, hb⟩; have hBn : Below w.heap.size w w' := (by first | exact bt hB hb | exact bt hB.drew hb | exact bt (hB.alloc hB.size _) hb | exact bt (hB.alloc hB.size _).drew hb | exact bt ((hB.alloc hB.size _).alloc (hB.alloc hB.size _).size _) hb | exact bt ((hB.alloc hB.size _).alloc (hB.alloc hB.size _).size _).drew hb); have hLn : Has w' wa.heap.size [.int .i64 W, .int .i64 D, .int .i64 E] := (by first | exact hL.keep hb | exact hL.drew.keep hb | exact (hL.alloc _).keep hb | exact (hL.alloc _).drew.keep hb | exact ((hL.alloc _).alloc _).keep hb | exact ((hL.alloc _).alloc _).drew.keep hb); (try have z1 := z1.keep hb); (try have z1 := (z1.alloc _).keep hb); (try have z1 := ((z1.alloc _).alloc _).keep hb); (try have z2 := z2.keep hb); (try have z2 := (z2.alloc _).keep hb); (try have z2 := ((z2.alloc _).alloc _).keep hb); (first | (have zq := nz2 hb; obtain ⟨z3, z4⟩ := zq) | (have zq := nz2d hb; obtain ⟨z1, z2⟩ := zq) | (have z3 := nz1 hb) | (have z1 := nz1d hb) | skip); (try have z1l := z1.lt); (try obtain ⟨z10, z11, z12, z13⟩ := z1.c4); (try obtain ⟨z14, z15, z16, z17⟩ := z1.f4); (try have z2l := z2.lt); (try obtain ⟨z20, z21, z22, z23⟩ := z2.c4); (try obtain ⟨z24, z25, z26, z27⟩ := z2.f4); (try have z3l := z3.lt); (try obtain ⟨z30, z31, z32, z33⟩ := z3.c4); (try obtain ⟨z34, z35, z36, z37⟩ := z3.f4); (try have z4l := z4.lt); (try obtain ⟨z40, z41, z42, z43⟩ := z4.c4); (try obtain ⟨z44, z45, z46, z47⟩ := z4.f4); have hB := hBn; have hL := hLn; have hPl := hL.lt; have hsz := hB.size; obtain ⟨l0, l1, l2⟩ := hL.c3))
    all_goals
      go_wp2_with fail
      go_meet
      refine ⟨_, _, rfl, rfl, ?_, ?_, ?_, ?_, ?_, ?_, ?_⟩
      · omega
      · omega
      · omega
      · first
          | with_reducible exact (Has.new _ [_, _, _, _] _).alloc _
          | with_reducible exact Has.new1 _ _ [_, _, _, _] _
          | with_reducible exact Has.new4 _ _ _ _ _ _ _ _ _ _ [_, _, _, _] _
          | ((repeat (with_reducible (first | assumption | refine Has.set4 (p := .int .i64 0) (q := .int .i64 0) (r := .int .u64 0) (s := .int .i64 0) ?_ | refine Has.alloc ?_ _ | refine Has.far ?_ (by omega)))); done)
      · first
          | with_reducible exact (Has.new _ [_, _, _, _] _).alloc _
          | with_reducible exact Has.new1 _ _ [_, _, _, _] _
          | with_reducible exact Has.new4 _ _ _ _ _ _ _ _ _ _ [_, _, _, _] _
          | ((repeat (with_reducible (first | assumption | refine Has.set4 (p := .int .i64 0) (q := .int .i64 0) (r := .int .u64 0) (s := .int .i64 0) ?_ | refine Has.alloc ?_ _ | refine Has.far ?_ (by omega)))); done)
      · repeat (with_reducible (first | exact hL | refine Has.alloc ?_ _ | refine Has.drew ?_ | refine Has.far ?_ (by omega)))
      · repeat (with_reducible (first | exact hB | refine Below.al ?_ _ | refine Below.drew ?_ | refine Below.st ?_ (by omega)))
  case rest =>
    obtain ⟨X, Y, rfl, rfl, hXP, hYP, hXY, hX, hY, hL, hB⟩ := hcut
    obtain ⟨l0, l1, l2⟩ := hL.c3
    obtain ⟨x0, x1, x2, x3⟩ := hX.c4
    obtain ⟨y0, y1, y2, y3⟩ := hY.c4
    by_cases ca : cls D (siz W a) = 4
    · have ea : (cls D (siz W a) == 4) = true := by simp [ca]
      have hN := Lib.hid (show addF W D mode a b = (jn W 0 (qz D), 0) by unfold addF; rw [if_pos (.inl ca)])
      clear ca
      go_wp2_with fail
      refine (quiet_c W D E h _).mono ?_
      rintro e w2 ⟨rfl, hb⟩
      go_wp2
      go_ret3
      exact ⟨by rw [hN.out]; rfl, bt hB hb⟩
    by_cases cb : cls D (siz W b) = 4
    · have ea : (cls D (siz W a) == 4) = false := by simp [ca]
      have eb : (cls D (siz W b) == 4) = true := by simp [cb]
      have hN := Lib.hid (show addF W D mode a b = (jn W 0 (qz D), 0) by unfold addF; rw [if_pos (.inr cb)])
      clear ca cb
      go_wp2_with fail
      refine (quiet_c W D E h _).mono ?_
      rintro e w2 ⟨rfl, hb⟩
      go_wp2
      go_ret3
      exact ⟨by rw [hN.out]; rfl, bt hB hb⟩
    have ea : (cls D (siz W a) == 4) = false := by simp [ca]
    have eb : (cls D (siz W b) == 4) = false := by simp [cb]
    have hO := Lib.hid (opAdd_c W D E mode a b h hm ha hb' ca cb)
    clear ca cb
    go_wp2_with fail
    refine (hO.out _).mono ?_
    rintro e w2 ⟨rfl, hb⟩
    go_wp2
    go_ret3
    exact ⟨rfl, bt hB hb⟩
end Go.Proofs.YtfdenbgmogojeaaDoor
