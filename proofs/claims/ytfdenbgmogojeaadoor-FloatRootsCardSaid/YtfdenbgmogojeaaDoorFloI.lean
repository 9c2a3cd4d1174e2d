/- Contract of package float's open: what a float is taken apart into, for every kind and every float of it. -/
import Derived.Test.YtfdenbgmogojeaaDoorFloH
import Derived.Test.YtfdenbgmogojeaaDoorFloP
import Derived.Deep.RegionWith
import Derived.Deep.DeepCutAuto
namespace Go.Proofs.YtfdenbgmogojeaaDoor
open Go.RowKit

/-- A float's number and exponent. -/
def mant (D z : Int) : Int := if cls D z ≤ 1 then z else if cls D z = 2 then z % hid D + hid D else 0
def expo (D z : Int) : Int := if cls D z ≤ 1 then low D else if cls D z = 2 then z / hid D - 1 + low D else 0
abbrev num (c s m e : Int) : Value := .agg #[.int .i64 c, .int .i64 s, .int .u64 m, .int .i64 e]

theorem ckA {wp w' : World} {o : Obj} {p : Addr} {v : Value} (hb : Below (wp.alloc o).heap.size (wp.alloc o) w') (h : wp.cell? p = some v) : w'.cell? p = some v := by
  refine ck hb ?_
  obtain ⟨b, i, s⟩ := p
  have := World.block_lt_of_cell? wp _ h
  rw [World.cell?_alloc_old _ _ _ (by simp at this ⊢; omega)]; exact h

theorem keepSt {w wp : World} {n X i : Nat} {a b c v : Value} (h : Below w.heap.size w wp ∧ wp.cell? ⟨n, 0, none⟩ = some a ∧ wp.cell? ⟨n, 1, none⟩ = some b ∧ wp.cell? ⟨n, 2, none⟩ = some c) (hne : X ≠ n) (hle : w.heap.size ≤ X) :
    Below w.heap.size w (wp.setCell ⟨X, i, none⟩ v) ∧ (wp.setCell ⟨X, i, none⟩ v).cell? ⟨n, 0, none⟩ = some a ∧ (wp.setCell ⟨X, i, none⟩ v).cell? ⟨n, 1, none⟩ = some b ∧ (wp.setCell ⟨X, i, none⟩ v).cell? ⟨n, 2, none⟩ = some c := by
  have hc : ∀ j, (wp.setCell ⟨X, i, none⟩ v).cell? ⟨n, j, none⟩ = wp.cell? ⟨n, j, none⟩ := fun j => World.cell?_setCell_other wp ⟨X, i, none⟩ ⟨n, j, none⟩ v (by intro e; cases e; exact hne rfl)
  exact ⟨h.1.st hle, by rw [hc]; exact h.2.1, by rw [hc]; exact h.2.2.1, by rw [hc]; exact h.2.2.2⟩
theorem mant_2 (W D E a : Int) (h : KL W D E) : bits .or .u64 (bits .and .u64 (siz W a) (IntKind.u64.wrap (hid D - 1))) (hid D) = siz W a % hid D + hid D := by
  obtain ⟨z0, z1⟩ := siz_b W D E a h
  have z2 := (hf_b h).2
  generalize siz W a = z at *
  obtain ⟨n, rfl⟩ := Int.eq_ofNat_of_zero_le z0
  rcases h with ⟨rfl, rfl, rfl⟩ | ⟨rfl, rfl, rfl⟩ | ⟨rfl, rfl, rfl⟩
  · rw [show IntKind.u64.wrap (hid 11 - 1) = ((1023 : Nat) : Int) by decide, bits_and_u64_nat n 1023 (by omega) (by decide), nat_mask10, show hid 11 = ((1024 : Nat) : Int) by decide, u64_or_nat _ _ (by omega) (by decide), Nat.or_comm, nat_join 10 1024 _ (by decide) (by omega)]; omega
  · rw [show IntKind.u64.wrap (hid 24 - 1) = ((8388607 : Nat) : Int) by decide, bits_and_u64_nat n 8388607 (by omega) (by decide), nat_mask23, show hid 24 = ((8388608 : Nat) : Int) by decide, u64_or_nat _ _ (by omega) (by decide), Nat.or_comm, nat_join 23 8388608 _ (by decide) (by omega)]; omega
  · rw [show IntKind.u64.wrap (hid 53 - 1) = ((4503599627370495 : Nat) : Int) by decide, bits_and_u64_nat n 4503599627370495 (by omega) (by decide), show (4503599627370495 : Nat) = 2 ^ 52 - 1 by decide, Nat.and_two_pow_sub_one_eq_mod, show hid 53 = ((4503599627370496 : Nat) : Int) by decide, u64_or_nat _ _ (by omega) (by decide), Nat.or_comm, nat_join 52 4503599627370496 _ (by decide) (by omega)]; omega

theorem expo_2 (W D E a : Int) (h : KL W D E) : IntKind.i64.wrap (IntKind.i64.wrap (IntKind.i64.wrap (siz W a / 2 ^ (D.toNat - 1)) - 1) + low D) = siz W a / hid D - 1 + low D := by
  obtain ⟨z0, z1⟩ := siz_b W D E a h
  have z2 := (hf_b h).2
  have hp := (hid_pow W D E h).1
  rw [show (2 : Int) ^ (D.toNat - 1) = hid D by rw [hp]; simp]
  generalize siz W a = z at *
  have hh : 1024 ≤ hid D ∧ -1074 ≤ low D ∧ low D ≤ 0 := by rcases h with ⟨rfl, rfl, rfl⟩ | ⟨rfl, rfl, rfl⟩ | ⟨rfl, rfl, rfl⟩ <;> decide
  have q0 : 0 ≤ z / hid D := Int.ediv_nonneg z0 (by omega)
  have q1 : z / hid D ≤ z := Int.ediv_le_self _ z0
  have q2 : z / hid D < 9223372036854775808 / 1024 := by
    have : z / hid D * hid D ≤ z := Int.ediv_mul_le z (by omega)
    have : z / hid D * 1024 ≤ z / hid D * hid D := Int.mul_le_mul_of_nonneg_left hh.1 q0
    omega
  generalize z / hid D = q at *
  rw [IntWalk.i64_in q (by omega), IntWalk.i64_in (q - 1) (by omega), IntWalk.i64_in _ (by omega)]

theorem expo_2' (W D E a : Int) (h : KL W D E) : wrap64 (wrap64 (wrap64 (siz W a / 2 ^ (D.toNat - 1)) - 1) + low D) = siz W a / hid D - 1 + low D := by
  have e : ∀ n, wrap64 n = IntKind.i64.wrap n := fun n => by unfold wrap64; rw [IntKind.wrap_i64]
  rw [e, e, e]; exact expo_2 W D E a h

theorem ret_num {c s m e m' e' : Int} (hm : m' = m) (he : e' = e) : Ending.returned (.agg #[.int .i64 c, .int .i64 s, .int .u64 m', .int .i64 e']) = .returned (num c s m e) := by rw [hm, he]

theorem res70 (tm : Array Value) (R : Nat) (c s m e : Value) (w : World) (hp : tm[4]?.getD undef = .pointer (some ⟨R, 0, none⟩)) (h : Has w R [c, s, m, e]) :
    (results Tryd.f72 tm).run Tryd.prog w = .ok (.agg #[c, s, m, e]) w := by
  obtain ⟨h0, h1, h2, h3⟩ := h.c4
  simp [results, Tryd.results72, go_sem, hp, h0, h1, h2, h3]

set_option maxHeartbeats 4000000 in
theorem open_c (W D E a : Int) (h : KL W D E) (hv : okB W a = true) (w : World) :
    Calls Tryd.prog 72 #[lay W D E, .int .i64 a] w fun e w' => e = .returned (num (cls D (siz W a)) (sgn W a) (mant D (siz W a)) (expo D (siz W a))) ∧ Below w.heap.size w w' := by
  go_enter Tryd.func72, Tryd.ntmps72
  go_wp2_with fail
  go_cut [5] (fun x wr => ∃ X : Nat, x = .pointer (some ⟨X, 0, none⟩) ∧ w.heap.size + 1 < X ∧ Has wr X [.int .i64 (cls D (siz W a)), .int .i64 (sgn W a), .int .u64 0, .int .i64 0] ∧ Has wr w.heap.size [.int .i64 W, .int .i64 D, .int .i64 E] ∧ Has wr (w.heap.size + 1) [.int .i64 0, .int .i64 0, .int .u64 0, .int .i64 0] ∧ Below w.heap.size w wr)
  case first =>
    have hL := ((Has.new w [.int .i64 W, .int .i64 D, .int .i64 E] 48).alloc (.cells #[.int .i64 0, .int .i64 0, .int .u64 0, .int .i64 0] 70)).drew
    have hR : Has ((w.alloc (.cells #[.int .i64 W, .int .i64 D, .int .i64 E] 48)).alloc (.cells #[.int .i64 0, .int .i64 0, .int .u64 0, .int .i64 0] 70)).drew (w.heap.size + 1) [.int .i64 0, .int .i64 0, .int .u64 0, .int .i64 0] := by
      have := (Has.new (w.alloc (.cells #[.int .i64 W, .int .i64 D, .int .i64 E] 48)) [.int .i64 0, .int .i64 0, .int .u64 0, .int .i64 0] 70).drew
      rw [World.size_alloc] at this; exact this
    have hB : Below w.heap.size w ((w.alloc (.cells #[.int .i64 W, .int .i64 D, .int .i64 E] 48)).alloc (.cells #[.int .i64 0, .int .i64 0, .int .u64 0, .int .i64 0] 70)).drew := by go_grown
    go_region_with (first
      | (go_at_call 74; refine (class_c W D E a h _).mono ?_; rintro e w' ⟨rfl, hb⟩; have hXm := hR.lt; have hB : Below w.heap.size w w' := (by first | exact bt hB hb | exact bt (hB.alloc hB.size _) hb); have hL : Has w' w.heap.size [.int .i64 W, .int .i64 D, .int .i64 E] := (by first | exact hL.keep hb | exact (hL.alloc _).keep hb); have hR : Has w' (w.heap.size + 1) [.int .i64 0, .int .i64 0, .int .u64 0, .int .i64 0] := (by first | exact hR.keep hb | exact (hR.alloc _).keep hb); obtain ⟨hl0, hl1, hl2⟩ := hL.c3; have hlt := hL.lt; (first | (have hX := hX.keep hb; obtain ⟨hx0, hx1, hx2, hx3⟩ := hX.c4; obtain ⟨fx0, fx1, fx2, fx3⟩ := hX.f4) | (have hX := (Has.new _ [.int .i64 0, .int .i64 0, .int .u64 0, .int .i64 0] 70).keep hb; have hXn := hXm; obtain ⟨hx0, hx1, hx2, hx3⟩ := hX.c4; obtain ⟨fx0, fx1, fx2, fx3⟩ := hX.f4) | (have hX := (Has.new2 w _ _ [.int .i64 0, .int .i64 0, .int .u64 0, .int .i64 0] 70).keep hb; have hXn : w.heap.size + 1 < w.heap.size + 2 := (by omega); obtain ⟨hx0, hx1, hx2, hx3⟩ := hX.c4; obtain ⟨fx0, fx1, fx2, fx3⟩ := hX.f4) | skip))
      | (go_at_call 76; refine (sign_c W D E a h hv _).mono ?_; rintro e w' ⟨rfl, hb⟩; have hXm := hR.lt; have hB : Below w.heap.size w w' := (by first | exact bt hB hb | exact bt (hB.alloc hB.size _) hb); have hL : Has w' w.heap.size [.int .i64 W, .int .i64 D, .int .i64 E] := (by first | exact hL.keep hb | exact (hL.alloc _).keep hb); have hR : Has w' (w.heap.size + 1) [.int .i64 0, .int .i64 0, .int .u64 0, .int .i64 0] := (by first | exact hR.keep hb | exact (hR.alloc _).keep hb); obtain ⟨hl0, hl1, hl2⟩ := hL.c3; have hlt := hL.lt; (first | (have hX := hX.keep hb; obtain ⟨hx0, hx1, hx2, hx3⟩ := hX.c4; obtain ⟨fx0, fx1, fx2, fx3⟩ := hX.f4) | (have hX := (Has.new _ [.int .i64 0, .int .i64 0, .int .u64 0, .int .i64 0] 70).keep hb; have hXn := hXm; obtain ⟨hx0, hx1, hx2, hx3⟩ := hX.c4; obtain ⟨fx0, fx1, fx2, fx3⟩ := hX.f4) | (have hX := (Has.new2 w _ _ [.int .i64 0, .int .i64 0, .int .u64 0, .int .i64 0] 70).keep hb; have hXn : w.heap.size + 1 < w.heap.size + 2 := (by omega); obtain ⟨hx0, hx1, hx2, hx3⟩ := hX.c4; obtain ⟨fx0, fx1, fx2, fx3⟩ := hX.f4) | skip)))
    all_goals
      go_wp2_with fail
      go_meet
      first
        | exact ⟨_, rfl, hR.lt, Has.new _ _ _, hL.alloc _, hR.alloc _, hB.alloc hB.size _⟩
        | exact ⟨_, rfl, hXn, (((hX.set).set).set).set, (((hL.far (by omega)).far (by omega)).far (by omega)).far (by omega), (((hR.far (by omega)).far (by omega)).far (by omega)).far (by omega), (((hB.st (by omega)).st (by omega)).st (by omega)).st (by omega)⟩
  case rest =>
    obtain ⟨X, rfl, hXn, hX, hL, hR, hB⟩ := hcut
    obtain ⟨hl0, hl1, hl2⟩ := hL.c3
    go_wp2_with fail
    refine (size_c W D E a h _).mono ?_
    rintro e w1 ⟨rfl, hb⟩
    have hX := hX.keep hb
    have hL := hL.keep hb
    have hR := hR.keep hb
    have hB := bt hB hb
    clear hb
    obtain ⟨hl0, hl1, hl2⟩ := hL.c3
    obtain ⟨hx0, hx1, hx2, hx3⟩ := hX.c4
    obtain ⟨fx0, fx1, fx2, fx3⟩ := hX.f4
    obtain ⟨hr0, hr1, hr2, hr3⟩ := hR.c4
    obtain ⟨fr0, fr1, fr2, fr3⟩ := hR.f4
    have hne : X ≠ w.heap.size + 1 := by omega
    have hne' : w.heap.size + 1 ≠ X := by omega
    have hcc := cls_nn D (siz W a)
    by_cases c01 : cls D (siz W a) ≤ 1
    · have c01' : cls D (siz W a) = 0 ∨ cls D (siz W a) = 1 := by omega
      have hM := Lib.hid (show mant D (siz W a) = siz W a by unfold mant; rw [if_pos c01])
      have hE := Lib.hid (show expo D (siz W a) = low D by unfold expo; rw [if_pos c01])
      have q01 : ((cls D (siz W a) == 0) = true) ∨ ((cls D (siz W a) == 0) = false ∧ (cls D (siz W a) == 1) = true) := by
        rcases c01' with c | c
        · left; simp [c]
        · right; simp [c]
      clear c01 c01' hcc
      rcases q01 with q0 | ⟨q0, q1⟩
      · go_wp2_with fail
        refine (lowest_c W D E h _).mono ?_
        rintro e w2 ⟨rfl, hb⟩
        have hX := hX.keep hb
        have hL := hL.keep hb
        have hR := hR.keep hb
        have hB := bt hB hb
        clear hb
        obtain ⟨hl0, hl1, hl2⟩ := hL.c3
        obtain ⟨hx0, hx1, hx2, hx3⟩ := hX.c4
        obtain ⟨fx0, fx1, fx2, fx3⟩ := hX.f4
        obtain ⟨hr0, hr1, hr2, hr3⟩ := hR.c4
        obtain ⟨fr0, fr1, fr2, fr3⟩ := hR.f4
        go_wp2_with fail
        refine bodyPost_ret (res70 _ (w.heap.size + 1) _ _ _ _ _ rfl ((((((hR.far hne).far hne).set).set).set).set)) rfl ⟨ret_num hM.out.symm hE.out.symm, (((((hB.st (by omega)).st (by omega)).st (by omega)).st (by omega)).st (by omega)).st (by omega)⟩
      · go_wp2_with fail
        refine (lowest_c W D E h _).mono ?_
        rintro e w2 ⟨rfl, hb⟩
        have hX := hX.keep hb
        have hL := hL.keep hb
        have hR := hR.keep hb
        have hB := bt hB hb
        clear hb
        obtain ⟨hl0, hl1, hl2⟩ := hL.c3
        obtain ⟨hx0, hx1, hx2, hx3⟩ := hX.c4
        obtain ⟨fx0, fx1, fx2, fx3⟩ := hX.f4
        obtain ⟨hr0, hr1, hr2, hr3⟩ := hR.c4
        obtain ⟨fr0, fr1, fr2, fr3⟩ := hR.f4
        go_wp2_with fail
        refine bodyPost_ret (res70 _ (w.heap.size + 1) _ _ _ _ _ rfl ((((((hR.far hne).far hne).set).set).set).set)) rfl ⟨ret_num hM.out.symm hE.out.symm, (((((hB.st (by omega)).st (by omega)).st (by omega)).st (by omega)).st (by omega)).st (by omega)⟩
    · by_cases c2 : cls D (siz W a) = 2
      · have m2 := Lib.hid (mant_2 W D E a h)
        have hD : 11 ≤ D ∧ D ≤ 53 := (hid_pow W D E h).2.2
        obtain ⟨d0, d1⟩ := hD
        have z0 := (siz_b W D E a h).1
        have y3 : IntKind.i64.wrap (D - 1) = D - 1 := IntWalk.i64_in _ (by omega)
        have q0 : (cls D (siz W a) == 0) = false := by simp [c2]
        have q1 : (cls D (siz W a) == 1) = false := by simp [c2]
        have q2 : (cls D (siz W a) == 2) = true := by simp [c2]
        have hM := Lib.hid (show mant D (siz W a) = siz W a % hid D + hid D by unfold mant; rw [if_neg c01, if_pos c2])
        have hE := Lib.hid (show expo D (siz W a) = siz W a / hid D - 1 + low D by unfold expo; rw [if_neg c01, if_pos c2])
        clear c01 c2 hcc
        go_wp2_with fail
        go_region_held3 (fun w' => Below w.heap.size w w' ∧ w'.cell? ⟨w.heap.size, 0, none⟩ = some (.int .i64 W) ∧ w'.cell? ⟨w.heap.size, 1, none⟩ = some (.int .i64 D) ∧ w'.cell? ⟨w.heap.size, 2, none⟩ = some (.int .i64 E))
          (first | exact keepD ⟨hB, hl0, hl1, hl2⟩ | exact keepL (by assumption) hb | exact keepSt (by assumption) (by omega) (by omega))
          (first | (go_at_call 109; refine (hidden_c W D E h _).mono ?_; rintro e w2 ⟨rfl, hb⟩; have hX := (by first | exact hX.keep hb | exact hX.drew.keep hb : Has w2 X [.int .i64 (cls D (siz W a)), .int .i64 (sgn W a), .int .u64 0, .int .i64 0]); obtain ⟨hx0, hx1, hx2, hx3⟩ := hX.c4; obtain ⟨fx0, fx1, fx2, fx3⟩ := hX.f4; have hR := (by first | exact hR.keep hb | exact hR.drew.keep hb : Has w2 (w.heap.size + 1) [.int .i64 0, .int .i64 0, .int .u64 0, .int .i64 0])))
        rename_i hH
        obtain ⟨hB, hl0, hl1, hl2⟩ := hH
        have hX := hX.set (i := 2) (v := .int .u64 (bits .or .u64 (bits .and .u64 (siz W a) (IntKind.u64.wrap (hid D - 1))) (hid D)))
        have hR := hR.far (m := X) (i := 2) (v := .int .u64 (bits .or .u64 (bits .and .u64 (siz W a) (IntKind.u64.wrap (hid D - 1))) (hid D))) (by omega)
        simp only [List.set] at hX
        go_wp2_with fail
        go_region_held3 (fun w' => Below w.heap.size w w' ∧ w'.cell? ⟨w.heap.size, 0, none⟩ = some (.int .i64 W) ∧ w'.cell? ⟨w.heap.size, 1, none⟩ = some (.int .i64 D) ∧ w'.cell? ⟨w.heap.size, 2, none⟩ = some (.int .i64 E))
          (first | exact keepD ⟨hB, hl0, hl1, hl2⟩ | exact keepL (by assumption) hb | exact keepSt (by assumption) (by omega) (by omega))
          (first | (go_at_call 108; refine (lowest_c W D E h _).mono ?_; rintro e w2 ⟨rfl, hb⟩; have hB2 : Below w.heap.size w w2 := (by first | exact bt hB hb | exact bt hB.drew hb); have hX := (by first | exact hX.keep hb | exact hX.drew.keep hb : Has w2 X [.int .i64 (cls D (siz W a)), .int .i64 (sgn W a), .int .u64 (bits .or .u64 (bits .and .u64 (siz W a) (IntKind.u64.wrap (hid D - 1))) (hid D)), .int .i64 0]); obtain ⟨hx0, hx1, hx2, hx3⟩ := hX.c4; obtain ⟨fx0, fx1, fx2, fx3⟩ := hX.f4; have hR := (by first | exact hR.keep hb | exact hR.drew.keep hb : Has w2 (w.heap.size + 1) [.int .i64 0, .int .i64 0, .int .u64 0, .int .i64 0])))
        rename_i hH
        obtain ⟨hB, hl0, hl1, hl2⟩ := hH
        have e2 := Lib.hid (expo_2' W D E a h)
        obtain ⟨hr0, hr1, hr2, hr3⟩ := hR.c4
        obtain ⟨fr0, fr1, fr2, fr3⟩ := hR.f4
        go_wp2_with fail
        refine bodyPost_ret (res70 _ (w.heap.size + 1) _ _ _ _ _ rfl ((((hR.far hne).set).set).set).set) rfl ⟨ret_num (m2.out.trans hM.out.symm) (e2.out.trans hE.out.symm), ((((hB2.st (by omega)).st (by omega)).st (by omega)).st (by omega)).st (by omega)⟩
      · have q0 : (cls D (siz W a) == 0) = false := by simp; omega
        have q1 : (cls D (siz W a) == 1) = false := by simp; omega
        have q2 : (cls D (siz W a) == 2) = false := by simp [c2]
        have hM := Lib.hid (show mant D (siz W a) = 0 by unfold mant; rw [if_neg c01, if_neg c2])
        have hE := Lib.hid (show expo D (siz W a) = 0 by unfold expo; rw [if_neg c01, if_neg c2])
        clear c01 c2 hcc
        go_wp2_with fail
        refine bodyPost_ret (res70 _ (w.heap.size + 1) _ _ _ _ _ rfl ((((hR).set).set).set).set) rfl ⟨ret_num hM.out.symm hE.out.symm, (((hB.st (by omega)).st (by omega)).st (by omega)).st (by omega)⟩
end Go.Proofs.YtfdenbgmogojeaaDoor
