/- Contract of package float's Parts for every kind: of an infinite one or no number, of a zero, of another float (an odd number and its exponent), and of what is none. Condition where said: the table deBruijn64tab holds what the package's text lays. -/
import Derived.Test.YtfdenbgmogojeaaDoorFloTz
import Derived.Test.YtfdenbgmogojeaaDoorFloW
namespace Go.Proofs.YtfdenbgmogojeaaDoor
open Go.RowKit

/-- Four results. -/
theorem results_tmp4 {fn : Func} {t u v x : Tmp} (h : fn.results = #[.tmp t, .tmp u, .tmp v, .tmp x]) (tmps : Array Value) (P : Program) (w : World) :
    (results fn tmps).run P w = .ok (.tuple #[tmps.getD t undef, tmps.getD u undef, tmps.getD v undef, tmps.getD x undef]) w := by
  simp [results, h]

theorem DB.keep {w w' : World} {n : Nat} (h : DB w) (hb : Below n w w') (hn : 1 < n) : DB w' := fun i v hi => by
  rw [hb.cell (p := ⟨1, i, none⟩) hn]; exact h i v hi
theorem DB.lt {w : World} (h : DB w) : 1 < w.heap.size := World.block_lt_of_cell? w _ (h 0 0 rfl)

set_option maxHeartbeats 1000000 in
theorem Parts_no (k a : Int) (h2 : (k == 2) = false) (h4 : (k == 4) = false) (h8 : (k == 8) = false) (w : World) :
    Calls Tryd.prog 36 #[.int .i64 k, .int .i64 a] w fun e w' => e = .returned (.tuple #[.int .i64 0, .int .i64 0, .int .i64 0, .int .i64 2]) ∧ Below w.heap.size w w' := by
  go_enter Tryd.func36, Tryd.ntmps36
  go_wp2_with fail
  refine (layoutOf_no k h2 h4 h8 _).mono ?_
  rintro e w1 ⟨rfl, hb⟩
  have hB := hb.alloc hb.size (.cells #[.int .i64 0, .int .i64 0, .int .i64 0] 48)
  go_wp2
  ((try simp only [Exit.inBlock, Exit.then]); refine bodyPost_ret (results_tmp4 rfl _ _ _) rfl ?_)
  exact ⟨rfl, hB⟩

set_option maxHeartbeats 1000000 in
theorem Parts_out (k W D E a : Int) (hk : KK k W D E) (hv : okB W a = false) (w : World) :
    Calls Tryd.prog 36 #[.int .i64 k, .int .i64 a] w fun e w' => e = .returned (.tuple #[.int .i64 0, .int .i64 0, .int .i64 0, .int .i64 2]) ∧ Below w.heap.size w w' := by
  have h := hk.kl
  have Hk := Lib.hid hk; clear hk
  go_enter Tryd.func36, Tryd.ntmps36
  go_wp2_with fail
  refine (layoutOf_c k W D E Hk.out _).mono ?_
  rintro e wa ⟨rfl, hb⟩
  have hB := hb.alloc hb.size (.cells #[.int .i64 W, .int .i64 D, .int .i64 E] 48)
  have hL := Has.new wa [.int .i64 W, .int .i64 D, .int .i64 E] 48
  go_wp2_with fail
  refine (holds_c W D E a h _).mono ?_
  rintro e w1 ⟨rfl, hb⟩
  have hB := bt hB hb
  go_wp2
  ((try simp only [Exit.inBlock, Exit.then]); refine bodyPost_ret (results_tmp4 rfl _ _ _) rfl ?_)
  exact ⟨rfl, hB⟩

set_option maxHeartbeats 2000000 in
theorem Parts_far (k W D E a : Int) (hk : KK k W D E) (hv : okB W a = true) (hc : cls D (siz W a) = 3 ∨ cls D (siz W a) = 4) (w : World) :
    Calls Tryd.prog 36 #[.int .i64 k, .int .i64 a] w fun e w' => e = .returned (.tuple #[.int .i64 0, .int .i64 0, .int .i64 0, .int .i64 10]) ∧ Below w.heap.size w w' := by
  have h := hk.kl
  have Hk := Lib.hid hk; clear hk
  rcases hc with hc | hc
  all_goals
    go_enter Tryd.func36, Tryd.ntmps36
    go_wp2_with fail
    refine (layoutOf_c k W D E Hk.out _).mono ?_
    rintro e wa ⟨rfl, hb⟩
    have hB := hb.alloc hb.size (.cells #[.int .i64 W, .int .i64 D, .int .i64 E] 48)
    have hL := Has.new wa [.int .i64 W, .int .i64 D, .int .i64 E] 48
    go_wp2_with fail
    refine (holds_c W D E a h _).mono ?_
    rintro e w1 ⟨rfl, hb⟩
    have hB := bt hB hb
    have hL := hL.keep hb
    obtain ⟨l0, l1, l2⟩ := hL.c3
    go_wp2_with fail
    refine (open_c W D E a h hv _).mono ?_
    rintro e w2 ⟨rfl, hb⟩
    have hB := bt hB hb
    have hX := Has.new w2 [.int .i64 (cls D (siz W a)), .int .i64 (sgn W a), .int .u64 (mant D (siz W a)), .int .i64 (expo D (siz W a))] 70
    have hB := hB.alloc hB.size (.cells #[.int .i64 (cls D (siz W a)), .int .i64 (sgn W a), .int .u64 (mant D (siz W a)), .int .i64 (expo D (siz W a))] 70)
    obtain ⟨x0, x1, x2, x3⟩ := hX.c4
    go_wp2
    ((try simp only [Exit.inBlock, Exit.then]); refine bodyPost_ret (results_tmp4 rfl _ _ _) rfl ?_)
    exact ⟨rfl, by rw [hc] at hB; exact hB⟩

set_option maxHeartbeats 2000000 in
theorem Parts_zero (k W D E a : Int) (hk : KK k W D E) (hv : okB W a = true) (hc : cls D (siz W a) = 0) (w : World) :
    Calls Tryd.prog 36 #[.int .i64 k, .int .i64 a] w fun e w' => e = .returned (.tuple #[.int .i64 (sgn W a), .int .i64 0, .int .i64 0, .int .i64 0]) ∧ Below w.heap.size w w' := by
  have h := hk.kl
  have Hk := Lib.hid hk; clear hk
  go_enter Tryd.func36, Tryd.ntmps36
  go_wp2_with fail
  refine (layoutOf_c k W D E Hk.out _).mono ?_
  rintro e wa ⟨rfl, hb⟩
  have hB := hb.alloc hb.size (.cells #[.int .i64 W, .int .i64 D, .int .i64 E] 48)
  have hL := Has.new wa [.int .i64 W, .int .i64 D, .int .i64 E] 48
  go_wp2_with fail
  refine (holds_c W D E a h _).mono ?_
  rintro e w1 ⟨rfl, hb⟩
  have hB := bt hB hb
  have hL := hL.keep hb
  obtain ⟨l0, l1, l2⟩ := hL.c3
  go_wp2_with fail
  refine (open_c W D E a h hv _).mono ?_
  rintro e w2 ⟨rfl, hb⟩
  have hB := bt hB hb
  have hX := Has.new w2 [.int .i64 (cls D (siz W a)), .int .i64 (sgn W a), .int .u64 (mant D (siz W a)), .int .i64 (expo D (siz W a))] 70
  have hB := hB.alloc hB.size (.cells #[.int .i64 (cls D (siz W a)), .int .i64 (sgn W a), .int .u64 (mant D (siz W a)), .int .i64 (expo D (siz W a))] 70)
  obtain ⟨x0, x1, x2, x3⟩ := hX.c4
  go_wp2
  ((try simp only [Exit.inBlock, Exit.then]); refine bodyPost_ret (results_tmp4 rfl _ _ _) rfl ?_)
  exact ⟨rfl, by rw [hc] at hB; exact hB⟩

set_option maxHeartbeats 4000000 in
theorem Parts_fin (k W D E a : Int) (t m : Nat) (hk : KK k W D E) (hv : okB W a = true) (hc : cls D (siz W a) = 1 ∨ cls D (siz W a) = 2) (ht : t < 64) (hm : m % 2 = 1)
    (hM : mant D (siz W a) = ((2 ^ t * m : Nat) : Int)) (w : World) (hd : DB w) :
    Calls Tryd.prog 36 #[.int .i64 k, .int .i64 a] w fun e w' => e = .returned (.tuple #[.int .i64 (sgn W a), .int .i64 (m : Int), .int .i64 (expo D (siz W a) + t), .int .i64 0]) ∧ Below w.heap.size w w' := by
  have h := hk.kl
  obtain ⟨z0, z1⟩ := siz_b W D E a h
  obtain ⟨m0, m1, _⟩ := mant_b W D E _ h z0 z1
  obtain ⟨e0, e1, _⟩ := expo_b W D E _ h z0 (by rcases hc with c | c <;> omega)
  obtain ⟨g1, g2, g3, g4, g5⟩ := hid_b W D E h
  have hlt : 2 ^ t * m < 18446744073709551616 := by
    generalize 2 ^ t * m = x at hM
    omega
  have hml : (m : Int) ≤ mant D (siz W a) := by
    rw [hM]; exact Int.ofNat_le.2 (Nat.le_mul_of_pos_left m (Nat.two_pow_pos t))
  have hsh : IntKind.i64.wrap (mant D (siz W a) / 2 ^ (t : Int).toNat) = (m : Int) := by
    have e : mant D (siz W a) / 2 ^ (t : Int).toNat = (m : Int) := by
      rw [hM, Int.toNat_natCast, Int.natCast_mul, Int.natCast_pow]
      exact Int.mul_ediv_cancel_left _ (Int.ne_of_gt (Int.pow_pos (by decide)))
    rw [e, IntKind.wrap_i64]; omega
  have hadd : IntKind.i64.wrap (expo D (siz W a) + (t : Int)) = expo D (siz W a) + t := by rw [IntKind.wrap_i64]; omega
  have HT := Lib.hid (fun w' hd' => tz_c t m ht hm hlt w' hd')
  rw [← hM] at HT
  have HE := Lib.hid hsh
  have HA := Lib.hid hadd
  have Hk := Lib.hid hk
  have Hd := Lib.hid hd
  have hn := hd.lt
  have ht0 : (0 : Int) ≤ (t : Int) ∧ (t : Int) < 64 := by omega
  have hc0 : (cls D (siz W a) == 0) = false ∧ (cls D (siz W a) == 3) = false ∧ (cls D (siz W a) == 4) = false := by rcases hc with c | c <;> rw [c] <;> decide
  obtain ⟨q0, q3, q4⟩ := hc0
  obtain ⟨t0, t1⟩ := ht0
  clear hk hd hM hm hlt hml m0 m1 e0 e1 g1 g2 g3 g4 g5 z0 z1 hsh hadd hc
  generalize (t : Int) = T at *
  go_enter Tryd.func36, Tryd.ntmps36
  go_wp2_with fail
  refine (layoutOf_c k W D E Hk.out _).mono ?_
  rintro e wa ⟨rfl, hb⟩
  have hB := hb.alloc hb.size (.cells #[.int .i64 W, .int .i64 D, .int .i64 E] 48)
  have hL := Has.new wa [.int .i64 W, .int .i64 D, .int .i64 E] 48
  go_wp2_with fail
  refine (holds_c W D E a h _).mono ?_
  rintro e w1 ⟨rfl, hb⟩
  have hB := bt hB hb
  have hL := hL.keep hb
  obtain ⟨l0, l1, l2⟩ := hL.c3
  go_wp2_with fail
  refine (open_c W D E a h hv _).mono ?_
  rintro e w2 ⟨rfl, hb⟩
  have hB := bt hB hb
  have hX := Has.new w2 [.int .i64 (cls D (siz W a)), .int .i64 (sgn W a), .int .u64 (mant D (siz W a)), .int .i64 (expo D (siz W a))] 70
  have hB := hB.alloc hB.size (.cells #[.int .i64 (cls D (siz W a)), .int .i64 (sgn W a), .int .u64 (mant D (siz W a)), .int .i64 (expo D (siz W a))] 70)
  obtain ⟨x0, x1, x2, x3⟩ := hX.c4
  go_wp2_with fail
  refine (HT.out _ (Hd.out.keep hB hn)).mono ?_
  rintro e w3 ⟨rfl, rfl⟩
  go_wp2_with fail
  go_region_held3 (fun w' => Below w.heap.size w w' ∧ w'.cell? ⟨w2.heap.size, 0, none⟩ = some (.int .i64 (cls D (siz W a))) ∧ w'.cell? ⟨w2.heap.size, 1, none⟩ = some (.int .i64 (sgn W a)) ∧ w'.cell? ⟨w2.heap.size, 2, none⟩ = some (.int .u64 (mant D (siz W a))) ∧ w'.cell? ⟨w2.heap.size, 3, none⟩ = some (.int .i64 (expo D (siz W a)))) (first | exact ⟨hB, x0, x1, x2, x3⟩ | exact ⟨hB.drew, x0, x1, x2, x3⟩) (fail)
  rename_i hH
  obtain ⟨hB, x0, x1, x2, x3⟩ := hH
  go_wp2
  ((try simp only [Exit.inBlock, Exit.then]); refine bodyPost_ret (results_tmp4 rfl _ _ _) rfl ?_)
  exact ⟨Eq.trans (show _ = Ending.returned (.tuple #[.int .i64 (sgn W a), .int .i64 (IntKind.i64.wrap (mant D (siz W a) / 2 ^ T.toNat)), .int .i64 (IntKind.i64.wrap (expo D (siz W a) + T)), .int .i64 0]) from rfl) (by rw [HE.out, HA.out]), hB⟩
end Go.Proofs.YtfdenbgmogojeaaDoor
