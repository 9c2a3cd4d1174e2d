/- Contract of package float's Convert for every input: errors, no numbers, infinite ones, zeros, and the rounded float. -/
import Derived.Test.YtfdenbgmogojeaaDoorFloTz
import Derived.Test.YtfdenbgmogojeaaDoorFloW
namespace Go.Proofs.YtfdenbgmogojeaaDoor
open Go.RowKit

/-- Four results. -/
theorem results_tmp4 {fn : Func} {t u v x : Tmp} (h : fn.results = #[.tmp t, .tmp u, .tmp v, .tmp x]) (tmps : Array Value) (P : Program) (w : World) :
    (results fn tmps).run P w = .ok (.tuple #[tmps.getD t undef, tmps.getD u undef, tmps.getD v undef, tmps.getD x undef]) w := by
  simp [results, h]

theorem DB.keep {w w' : World} {n : Nat} (h : DB w) (hb : Below n w w') (hn : 1 < n) : DB w' := fun i v hi => by
  rw [hb.cell (p := ⟨1, i, none⟩) hn]; exact h i v hi
theorem DB.lt {w : World} (h : DB w) : 1 < w.heap.size := World.block_lt_of_cell? w _ (h 0 0 rfl)

set_option maxHeartbeats 1000000 in
theorem Parts_no (k a : Int) (h2 : (k == 2) = false) (h4 : (k == 4) = false) (h8 : (k == 8) = false) (w : World) :
    Calls Tryd.prog 36 #[.int .i64 k, .int .i64 a] w fun e w' => e = .returned (.tuple #[.int .i64 0, .int .i64 0, .int .i64 0, .int .i64 2]) ∧ Below w.heap.size w w' := by
  go_enter Tryd.func36, Tryd.ntmps36
  go_wp2_with fail
  refine (layoutOf_no k h2 h4 h8 _).mono ?_
  rintro e w1 ⟨rfl, hb⟩
  have hB := hb.alloc hb.size (.cells #[.int .i64 0, .int .i64 0, .int .i64 0] 48)
  go_wp2
  ((try simp only [Exit.inBlock, Exit.then]); refine bodyPost_ret (results_tmp4 rfl _ _ _) rfl ?_)
  exact ⟨rfl, hB⟩

set_option maxHeartbeats 1000000 in
theorem Parts_out (k W D E a : Int) (hk : KK k W D E) (hv : okB W a = false) (w : World) :
    Calls Tryd.prog 36 #[.int .i64 k, .int .i64 a] w fun e w' => e = .returned (.tuple #[.int .i64 0, .int .i64 0, .int .i64 0, .int .i64 2]) ∧ Below w.heap.size w w' := by
  have h := hk.kl
  have Hk := Lib.hid hk; clear hk
  go_enter Tryd.func36, Tryd.ntmps36
  go_wp2_with fail
  refine (layoutOf_c k W D E Hk.out _).mono ?_
  rintro e wa ⟨rfl, hb⟩
  have hB := hb.alloc hb.size (.cells #[.int .i64 W, .int .i64 D, .int .i64 E] 48)
  have hL := Has.new wa [.int .i64 W, .int .i64 D, .int .i64 E] 48
  go_wp2_with fail
  refine (holds_c W D E a h _).mono ?_
  rintro e w1 ⟨rfl, hb⟩
  have hB := bt hB hb
  go_wp2
  ((try simp only [Exit.inBlock, Exit.then]); refine bodyPost_ret (results_tmp4 rfl _ _ _) rfl ?_)
  exact ⟨rfl, hB⟩

set_option maxHeartbeats 2000000 in
theorem Parts_far (k W D E a : Int) (hk : KK k W D E) (hv : okB W a = true) (hc : cls D (siz W a) = 3 ∨ cls D (siz W a) = 4) (w : World) :
    Calls Tryd.prog 36 #[.int .i64 k, .int .i64 a] w fun e w' => e = .returned (.tuple #[.int .i64 0, .int .i64 0, .int .i64 0, .int .i64 10]) ∧ Below w.heap.size w w' := by
  have h := hk.kl
  have Hk := Lib.hid hk; clear hk
  rcases hc with hc | hc
  all_goals
    go_enter Tryd.func36, Tryd.ntmps36
    go_wp2_with fail
    refine (layoutOf_c k W D E Hk.out _).mono ?_
    rintro e wa ⟨rfl, hb⟩
    have hB := hb.alloc hb.size (.cells #[.int .i64 W, .int .i64 D, .int .i64 E] 48)
    have hL := Has.new wa [.int .i64 W, .int .i64 D, .int .i64 E] 48
    go_wp2_with fail
    refine (holds_c W D E a h _).mono ?_
    rintro e w1 ⟨rfl, hb⟩
    have hB := bt hB hb
    have hL := hL.keep hb
    obtain ⟨l0, l1, l2⟩ := hL.c3
    go_wp2_with fail
    refine (open_c W D E a h hv _).mono ?_
    rintro e w2 ⟨rfl, hb⟩
    have hB := bt hB hb
    have hX := Has.new w2 [.int .i64 (cls D (siz W a)), .int .i64 (sgn W a), .int .u64 (mant D (siz W a)), .int .i64 (expo D (siz W a))] 70
    have hB := hB.alloc hB.size (.cells #[.int .i64 (cls D (siz W a)), .int .i64 (sgn W a), .int .u64 (mant D (siz W a)), .int .i64 (expo D (siz W a))] 70)
    obtain ⟨x0, x1, x2, x3⟩ := hX.c4
    go_wp2
    ((try simp only [Exit.inBlock, Exit.then]); refine bodyPost_ret (results_tmp4 rfl _ _ _) rfl ?_)
    exact ⟨rfl, by rw [hc] at hB; exact hB⟩

set_option maxHeartbeats 2000000 in
theorem Parts_zero (k W D E a : Int) (hk : KK k W D E) (hv : okB W a = true) (hc : cls D (siz W a) = 0) (w : World) :
    Calls Tryd.prog 36 #[.int .i64 k, .int .i64 a] w fun e w' => e = .returned (.tuple #[.int .i64 (sgn W a), .int .i64 0, .int .i64 0, .int .i64 0]) ∧ Below w.heap.size w w' := by
  have h := hk.kl
  have Hk := Lib.hid hk; clear hk
  go_enter Tryd.func36, Tryd.ntmps36
  go_wp2_with fail
  refine (layoutOf_c k W D E Hk.out _).mono ?_
  rintro e wa ⟨rfl, hb⟩
  have hB := hb.alloc hb.size (.cells #[.int .i64 W, .int .i64 D, .int .i64 E] 48)
  have hL := Has.new wa [.int .i64 W, .int .i64 D, .int .i64 E] 48
  go_wp2_with fail
  refine (holds_c W D E a h _).mono ?_
  rintro e w1 ⟨rfl, hb⟩
  have hB := bt hB hb
  have hL := hL.keep hb
  obtain ⟨l0, l1, l2⟩ := hL.c3
  go_wp2_with fail
  refine (open_c W D E a h hv _).mono ?_
  rintro e w2 ⟨rfl, hb⟩
  have hB := bt hB hb
  have hX := Has.new w2 [.int .i64 (cls D (siz W a)), .int .i64 (sgn W a), .int .u64 (mant D (siz W a)), .int .i64 (expo D (siz W a))] 70
  have hB := hB.alloc hB.size (.cells #[.int .i64 (cls D (siz W a)), .int .i64 (sgn W a), .int .u64 (mant D (siz W a)), .int .i64 (expo D (siz W a))] 70)
  obtain ⟨x0, x1, x2, x3⟩ := hX.c4
  go_wp2
  ((try simp only [Exit.inBlock, Exit.then]); refine bodyPost_ret (results_tmp4 rfl _ _ _) rfl ?_)
  exact ⟨rfl, by rw [hc] at hB; exact hB⟩

set_option maxHeartbeats 4000000 in
theorem Parts_fin (k W D E a : Int) (t m : Nat) (hk : KK k W D E) (hv : okB W a = true) (hc : cls D (siz W a) = 1 ∨ cls D (siz W a) = 2) (ht : t < 64) (hm : m % 2 = 1)
    (hM : mant D (siz W a) = ((2 ^ t * m : Nat) : Int)) (w : World) (hd : DB w) :
    Calls Tryd.prog 36 #[.int .i64 k, .int .i64 a] w fun e w' => e = .returned (.tuple #[.int .i64 (sgn W a), .int .i64 (m : Int), .int .i64 (expo D (siz W a) + t), .int .i64 0]) ∧ Below w.heap.size w w' := by
  have h := hk.kl
  obtain ⟨z0, z1⟩ := siz_b W D E a h
  obtain ⟨m0, m1, _⟩ := mant_b W D E _ h z0 z1
  obtain ⟨e0, e1, _⟩ := expo_b W D E _ h z0 (by rcases hc with c | c <;> omega)
  obtain ⟨g1, g2, g3, g4, g5⟩ := hid_b W D E h
  have hlt : 2 ^ t * m < 18446744073709551616 := by
    generalize 2 ^ t * m = x at hM
    omega
  have hml : (m : Int) ≤ mant D (siz W a) := by
    rw [hM]; exact Int.ofNat_le.2 (Nat.le_mul_of_pos_left m (Nat.two_pow_pos t))
  have hsh : IntKind.i64.wrap (mant D (siz W a) / 2 ^ (t : Int).toNat) = (m : Int) := by
    have e : mant D (siz W a) / 2 ^ (t : Int).toNat = (m : Int) := by
      rw [hM, Int.toNat_natCast, Int.natCast_mul, Int.natCast_pow]
      exact Int.mul_ediv_cancel_left _ (Int.ne_of_gt (Int.pow_pos (by decide)))
    rw [e, IntKind.wrap_i64]; omega
  have hadd : IntKind.i64.wrap (expo D (siz W a) + (t : Int)) = expo D (siz W a) + t := by rw [IntKind.wrap_i64]; omega
  have HT := Lib.hid (fun w' hd' => tz_c t m ht hm hlt w' hd')
  rw [← hM] at HT
  have HE := Lib.hid hsh
  have HA := Lib.hid hadd
  have Hk := Lib.hid hk
  have Hd := Lib.hid hd
  have hn := hd.lt
  have ht0 : (0 : Int) ≤ (t : Int) ∧ (t : Int) < 64 := by omega
  have hc0 : (cls D (siz W a) == 0) = false ∧ (cls D (siz W a) == 3) = false ∧ (cls D (siz W a) == 4) = false := by rcases hc with c | c <;> rw [c] <;> decide
  obtain ⟨q0, q3, q4⟩ := hc0
  obtain ⟨t0, t1⟩ := ht0
  clear hk hd hM hm hlt hml m0 m1 e0 e1 g1 g2 g3 g4 g5 z0 z1 hsh hadd hc
  generalize (t : Int) = T at *
  go_enter Tryd.func36, Tryd.ntmps36
  go_wp2_with fail
  refine (layoutOf_c k W D E Hk.out _).mono ?_
  rintro e wa ⟨rfl, hb⟩
  have hB := hb.alloc hb.size (.cells #[.int .i64 W, .int .i64 D, .int .i64 E] 48)
  have hL := Has.new wa [.int .i64 W, .int .i64 D, .int .i64 E] 48
  go_wp2_with fail
  refine (holds_c W D E a h _).mono ?_
  rintro e w1 ⟨rfl, hb⟩
  have hB := bt hB hb
  have hL := hL.keep hb
  obtain ⟨l0, l1, l2⟩ := hL.c3
  go_wp2_with fail
  refine (open_c W D E a h hv _).mono ?_
  rintro e w2 ⟨rfl, hb⟩
  have hB := bt hB hb
  have hX := Has.new w2 [.int .i64 (cls D (siz W a)), .int .i64 (sgn W a), .int .u64 (mant D (siz W a)), .int .i64 (expo D (siz W a))] 70
  have hB := hB.alloc hB.size (.cells #[.int .i64 (cls D (siz W a)), .int .i64 (sgn W a), .int .u64 (mant D (siz W a)), .int .i64 (expo D (siz W a))] 70)
  obtain ⟨x0, x1, x2, x3⟩ := hX.c4
  go_wp2_with fail
  refine (HT.out _ (Hd.out.keep hB hn)).mono ?_
  rintro e w3 ⟨rfl, rfl⟩
  go_wp2_with fail
  go_region_held3 (fun w' => Below w.heap.size w w' ∧ w'.cell? ⟨w2.heap.size, 0, none⟩ = some (.int .i64 (cls D (siz W a))) ∧ w'.cell? ⟨w2.heap.size, 1, none⟩ = some (.int .i64 (sgn W a)) ∧ w'.cell? ⟨w2.heap.size, 2, none⟩ = some (.int .u64 (mant D (siz W a))) ∧ w'.cell? ⟨w2.heap.size, 3, none⟩ = some (.int .i64 (expo D (siz W a)))) (first | exact ⟨hB, x0, x1, x2, x3⟩ | exact ⟨hB.drew, x0, x1, x2, x3⟩) (fail)
  rename_i hH
  obtain ⟨hB, x0, x1, x2, x3⟩ := hH
  go_wp2
  ((try simp only [Exit.inBlock, Exit.then]); refine bodyPost_ret (results_tmp4 rfl _ _ _) rfl ?_)
  exact ⟨Eq.trans (show _ = Ending.returned (.tuple #[.int .i64 (sgn W a), .int .i64 (IntKind.i64.wrap (mant D (siz W a) / 2 ^ T.toNat)), .int .i64 (IntKind.i64.wrap (expo D (siz W a) + T)), .int .i64 0]) from rfl) (by rw [HE.out, HA.out]), hB⟩
end Go.Proofs.YtfdenbgmogojeaaDoor

namespace Go.Proofs.YtfdenbgmogojeaaDoor
open Go.RowKit

set_option maxHeartbeats 400000 in
theorem isMode_no (m : Int) (h : ¬ Mode m) (w : World) : Calls Tryd.prog 69 #[.int .i64 m] w fun e w' => e = .returned (.bool false) ∧ w = w' := by
  by_cases c : 0 ≤ m
  · have c4 : 4 ≤ m := by unfold Mode at h; omega
    clear h
    go_enter Tryd.func69, Tryd.ntmps69
    go_wp2
    go_ret
    exact ⟨ret_b (decide_eq_false (by omega)), rfl⟩
  · clear h
    go_enter Tryd.func69, Tryd.ntmps69
    go_wp2
    go_ret
    exact ⟨rfl, rfl⟩

/-- What Make doesn't take. -/
def BadMk (k mode s m e : Int) : Prop :=
  ((k == 2) = false ∧ (k == 4) = false ∧ (k == 8) = false) ∨ (∃ W D E, KK k W D E ∧ (¬ Mode mode ∨ (Mode mode ∧ (((s == 0) = false ∧ (s == 1) = false) ∨ (Sgn s ∧ (m < 0 ∨ (0 ≤ m ∧ (e < -2000 ∨ (-2000 ≤ e ∧ 2000 < e)))))))))

set_option maxHeartbeats 2000000 in
theorem Make_bad (k mode s m e : Int) (h : BadMk k mode s m e) (w : World) :
    Calls Tryd.prog 44 #[.int .i64 k, .int .i64 mode, .int .i64 s, .int .i64 m, .int .i64 e] w fun e w' => e = .returned (.tuple #[.int .i64 0, .int .i64 0, .int .i64 2]) ∧ Below w.heap.size w w' := by
  rcases h with ⟨h2, h4, h8⟩ | ⟨W, D, E, hk, h⟩
  · go_enter Tryd.func44, Tryd.ntmps44
    go_wp2_with fail
    refine (layoutOf_no k h2 h4 h8 _).mono ?_
    rintro e w1 ⟨rfl, hb⟩
    have hB := hb.alloc hb.size (.cells #[.int .i64 0, .int .i64 0, .int .i64 0] 48)
    go_wp2
    go_ret3
    exact ⟨rfl, hB⟩
  · have Hk := Lib.hid hk; clear hk
    rcases h with hm | ⟨hm, h⟩
    · have Hm := Lib.hid hm; clear hm
      go_enter Tryd.func44, Tryd.ntmps44
      go_wp2_with fail
      refine (layoutOf_c k W D E Hk.out _).mono ?_
      rintro e w1 ⟨rfl, hb⟩
      have hB := hb.alloc hb.size (.cells #[.int .i64 W, .int .i64 D, .int .i64 E] 48)
      go_wp2_with fail
      refine (isMode_no mode Hm.out _).mono ?_
      rintro e w1 ⟨rfl, rfl⟩
      go_wp2
      go_ret3
      exact ⟨rfl, hB⟩
    · have Hm := Lib.hid hm; clear hm
      rcases h with ⟨s0, s1⟩ | ⟨rfl | rfl, hm0 | ⟨hm1, he | ⟨he0, he1⟩⟩⟩
      all_goals
        (try have n0 : (s != 0) = true := by simp at s0 ⊢; exact s0)
        (try have n1 : (s != 1) = true := by simp at s1 ⊢; exact s1)
        go_enter Tryd.func44, Tryd.ntmps44
        go_wp2_with fail
        refine (layoutOf_c k W D E Hk.out _).mono ?_
        rintro e w1 ⟨rfl, hb⟩
        have hB := hb.alloc hb.size (.cells #[.int .i64 W, .int .i64 D, .int .i64 E] 48)
        go_wp2_with fail
        refine (isMode_c mode Hm.out _).mono ?_
        rintro e w1 ⟨rfl, rfl⟩
        go_wp2
        go_ret3
        exact ⟨rfl, hB⟩

set_option maxHeartbeats 2000000 in
theorem Make_zero (k W D E mode s e : Int) (hk : KK k W D E) (hm : Mode mode) (hs : Sgn s) (he0 : -2000 ≤ e) (he1 : e ≤ 2000) (w : World) :
    Calls Tryd.prog 44 #[.int .i64 k, .int .i64 mode, .int .i64 s, .int .i64 0, .int .i64 e] w fun e w' => e = .returned (.tuple #[.int .i64 (jn W s 0), .int .i64 0, .int .i64 0]) ∧ Below w.heap.size w w' := by
  have h := hk.kl
  have Hk := Lib.hid hk; clear hk
  have Hm := Lib.hid hm; clear hm
  have hf0 : 0 < hf W := by rcases h with ⟨rfl, rfl, rfl⟩ | ⟨rfl, rfl, rfl⟩ | ⟨rfl, rfl, rfl⟩ <;> decide
  rcases hs with rfl | rfl
  all_goals
    go_enter Tryd.func44, Tryd.ntmps44
    go_wp2_with fail
    refine (layoutOf_c k W D E Hk.out _).mono ?_
    rintro e w1 ⟨rfl, hb⟩
    have hB := hb.alloc hb.size (.cells #[.int .i64 W, .int .i64 D, .int .i64 E] 48)
    have hL := Has.new w1 [.int .i64 W, .int .i64 D, .int .i64 E] 48
    obtain ⟨l0, l1, l2⟩ := hL.c3
    go_wp2_with fail
    refine (isMode_c mode Hm.out _).mono ?_
    rintro e w1 ⟨rfl, rfl⟩
    go_wp2_with fail
    refine (join_c W D E _ 0 h (by first | exact .inl rfl | exact .inr rfl) (Int.le_refl _) (by omega) _).mono ?_
    rintro e w2 ⟨rfl, hb⟩
    have hB := bt hB hb
    go_wp2
    go_ret3
    exact ⟨rfl, hB⟩

set_option maxHeartbeats 4000000 in
theorem Make_c (k W D E mode s m e : Int) (hk : KK k W D E) (hm : Mode mode) (hs : Sgn s) (m0 : 0 < m) (m1 : m < 9223372036854775808) (he0 : -2000 ≤ e) (he1 : e ≤ 2000) (w : World) :
    Calls Tryd.prog 44 #[.int .i64 k, .int .i64 mode, .int .i64 s, .int .i64 m, .int .i64 e] w fun e' w' => e' = .returned (.tuple #[.int .i64 (roundF W D mode s m.toNat e false).1, .int .i64 (roundF W D mode s m.toNat e false).2, .int .i64 0]) ∧ Below w.heap.size w w' := by
  have h := hk.kl
  have Hk := Lib.hid hk; clear hk
  have Hm := Lib.hid hm; clear hm
  have Hr := Lib.hid (fun w' => round_c W D E mode s 0 m e false h Hm.out hs ⟨by omega, by omega⟩ ⟨by omega, by omega⟩ (by rw [nn_zero]; omega) (by omega) (by have := bl_mono_le (nn 0 m) 64 (by rw [nn_zero]; omega); have := (hid_b W D E h); have := (hid_pow W D E h).2.2; omega) w')
  rw [nn_zero] at Hr
  rcases hs with rfl | rfl
  all_goals
    go_enter Tryd.func44, Tryd.ntmps44
    go_wp2_with fail
    refine (layoutOf_c k W D E Hk.out _).mono ?_
    rintro e w1 ⟨rfl, hb⟩
    have hB := hb.alloc hb.size (.cells #[.int .i64 W, .int .i64 D, .int .i64 E] 48)
    have hL := Has.new w1 [.int .i64 W, .int .i64 D, .int .i64 E] 48
    obtain ⟨l0, l1, l2⟩ := hL.c3
    go_wp2_with fail
    refine (isMode_c mode Hm.out _).mono ?_
    rintro e w1 ⟨rfl, rfl⟩
    go_wp2_with fail
    refine (Hr.out _).mono ?_
    rintro e w2 ⟨rfl, hb⟩
    have hB := bt hB hb
    go_wp2
    go_ret3
    exact ⟨rfl, hB⟩
end Go.Proofs.YtfdenbgmogojeaaDoor

namespace Go.Proofs.YtfdenbgmogojeaaDoor
open Go.RowKit

def NoK (k : Int) : Prop := (k == 2) = false ∧ (k == 4) = false ∧ (k == 8) = false
theorem mant_pos (W D E a : Int) (h : KL W D E) (hc : cls D (siz W a) = 1 ∨ cls D (siz W a) = 2) : 0 < mant D (siz W a) := by
  obtain ⟨z0, z1⟩ := siz_b W D E a h
  obtain ⟨m0, _, m2⟩ := mant_b W D E _ h z0 z1
  have hb := hid_b W D E h
  rcases hc with c | c
  · have hz : 0 < siz W a ∧ siz W a < hid D := by
      unfold cls at c
      repeat' split at c
      all_goals first | omega | cases c
    unfold mant; rw [if_pos (by omega)]; omega
  · have := m2 c; omega

set_option maxHeartbeats 1000000 in
theorem Convert_nof (f t mode a : Int) (hf : NoK f) (ht : NoK t ∨ ∃ W D E, KK t W D E) (w : World) :
    Calls Tryd.prog 34 #[.int .i64 f, .int .i64 t, .int .i64 mode, .int .i64 a] w fun e w' => e = .returned (.tuple #[.int .i64 0, .int .i64 0, .int .i64 2]) ∧ Below w.heap.size w w' := by
  obtain ⟨h2, h4, h8⟩ := hf
  go_enter Tryd.func34, Tryd.ntmps34
  go_wp2_with fail
  refine (layoutOf_no f h2 h4 h8 _).mono ?_
  rintro e wa ⟨rfl, hb⟩
  have hB := hb.alloc hb.size (.cells #[.int .i64 0, .int .i64 0, .int .i64 0] 48)
  clear h2 h4 h8
  go_wp2_with fail
  rcases ht with ⟨h2, h4, h8⟩ | ⟨W, D, E, hk⟩
  · refine (layoutOf_no t h2 h4 h8 _).mono ?_
    rintro e wb ⟨rfl, hb⟩
    have hB := bt hB hb
    have hB := hB.alloc hB.size (.cells #[.int .i64 0, .int .i64 0, .int .i64 0] 48)
    go_wp2
    go_ret3
    exact ⟨rfl, hB⟩
  · refine (layoutOf_c t W D E hk _).mono ?_
    rintro e wb ⟨rfl, hb⟩
    have hB := bt hB hb
    have hB := hB.alloc hB.size (.cells #[.int .i64 W, .int .i64 D, .int .i64 E] 48)
    go_wp2
    go_ret3
    exact ⟨rfl, hB⟩

set_option maxHeartbeats 1000000 in
theorem Convert_not (f Wf Df Ef t mode a : Int) (hk : KK f Wf Df Ef) (ht : NoK t) (w : World) :
    Calls Tryd.prog 34 #[.int .i64 f, .int .i64 t, .int .i64 mode, .int .i64 a] w fun e w' => e = .returned (.tuple #[.int .i64 0, .int .i64 0, .int .i64 2]) ∧ Below w.heap.size w w' := by
  have Hf := Lib.hid hk; clear hk
  obtain ⟨h2, h4, h8⟩ := ht
  go_enter Tryd.func34, Tryd.ntmps34
  go_wp2_with fail
  refine (layoutOf_c f Wf Df Ef Hf.out _).mono ?_
  rintro e wa ⟨rfl, hb⟩
  have hB := hb.alloc hb.size (.cells #[.int .i64 Wf, .int .i64 Df, .int .i64 Ef] 48)
  have hL := Has.new wa [.int .i64 Wf, .int .i64 Df, .int .i64 Ef] 48
  go_wp2_with fail
  refine (layoutOf_no t h2 h4 h8 _).mono ?_
  rintro e wb ⟨rfl, hb⟩
  have hB := bt hB hb
  have hB := hB.alloc hB.size (.cells #[.int .i64 0, .int .i64 0, .int .i64 0] 48)
  go_wp2
  go_ret3
  exact ⟨rfl, hB⟩

set_option maxHeartbeats 1000000 in
theorem Convert_mode (f Wf Df Ef t W D E mode a : Int) (hkf : KK f Wf Df Ef) (hkt : KK t W D E) (hm : ¬ Mode mode) (w : World) :
    Calls Tryd.prog 34 #[.int .i64 f, .int .i64 t, .int .i64 mode, .int .i64 a] w fun e w' => e = .returned (.tuple #[.int .i64 0, .int .i64 0, .int .i64 2]) ∧ Below w.heap.size w w' := by
  have Hf := Lib.hid hkf; clear hkf
  have Ht := Lib.hid hkt; clear hkt
  have Hm := Lib.hid hm; clear hm
  go_enter Tryd.func34, Tryd.ntmps34
  go_wp2_with fail
  refine (layoutOf_c f Wf Df Ef Hf.out _).mono ?_
  rintro e wa ⟨rfl, hb⟩
  have hB := hb.alloc hb.size (.cells #[.int .i64 Wf, .int .i64 Df, .int .i64 Ef] 48)
  have hL := Has.new wa [.int .i64 Wf, .int .i64 Df, .int .i64 Ef] 48
  go_wp2_with fail
  refine (layoutOf_c t W D E Ht.out _).mono ?_
  rintro e wb ⟨rfl, hb⟩
  have hB := bt hB hb
  have hL := hL.keep hb
  have hB := hB.alloc hB.size (.cells #[.int .i64 W, .int .i64 D, .int .i64 E] 48)
  have hL := hL.alloc (.cells #[.int .i64 W, .int .i64 D, .int .i64 E] 48)
  have hT := Has.new wb [.int .i64 W, .int .i64 D, .int .i64 E] 48
  go_wp2_with fail
  refine (isMode_no mode Hm.out _).mono ?_
  rintro e w1 ⟨rfl, rfl⟩
  go_wp2
  go_ret3
  exact ⟨rfl, hB⟩

set_option maxHeartbeats 1000000 in
theorem Convert_out (f Wf Df Ef t W D E mode a : Int) (hkf : KK f Wf Df Ef) (hkt : KK t W D E) (hm : Mode mode) (hv : okB Wf a = false) (w : World) :
    Calls Tryd.prog 34 #[.int .i64 f, .int .i64 t, .int .i64 mode, .int .i64 a] w fun e w' => e = .returned (.tuple #[.int .i64 0, .int .i64 0, .int .i64 2]) ∧ Below w.heap.size w w' := by
  have hkl := hkf.kl
  have Hf := Lib.hid hkf; clear hkf
  have Ht := Lib.hid hkt; clear hkt
  have Hm := Lib.hid hm; clear hm
  go_enter Tryd.func34, Tryd.ntmps34
  go_wp2_with fail
  refine (layoutOf_c f Wf Df Ef Hf.out _).mono ?_
  rintro e wa ⟨rfl, hb⟩
  have hB := hb.alloc hb.size (.cells #[.int .i64 Wf, .int .i64 Df, .int .i64 Ef] 48)
  have hL := Has.new wa [.int .i64 Wf, .int .i64 Df, .int .i64 Ef] 48
  go_wp2_with fail
  refine (layoutOf_c t W D E Ht.out _).mono ?_
  rintro e wb ⟨rfl, hb⟩
  have hB := bt hB hb
  have hL := hL.keep hb
  have hB := hB.alloc hB.size (.cells #[.int .i64 W, .int .i64 D, .int .i64 E] 48)
  have hL := hL.alloc (.cells #[.int .i64 W, .int .i64 D, .int .i64 E] 48)
  have hT := Has.new wb [.int .i64 W, .int .i64 D, .int .i64 E] 48
  go_wp2_with fail
  refine (isMode_c mode Hm.out _).mono ?_
  rintro e w1 ⟨rfl, rfl⟩
  obtain ⟨l0, l1, l2⟩ := hL.c3
  go_wp2_with fail
  refine (holds_c Wf Df Ef a hkl _).mono ?_
  rintro e w1 ⟨rfl, hb⟩
  have hB := bt hB hb
  have hL := hL.keep hb
  have hT := hT.keep hb
  obtain ⟨l0, l1, l2⟩ := hL.c3
  go_wp2
  go_ret3
  exact ⟨rfl, hB⟩

set_option maxHeartbeats 2000000 in
theorem Convert_none (f Wf Df Ef t W D E mode a : Int) (hkf : KK f Wf Df Ef) (hkt : KK t W D E) (hm : Mode mode) (hv : okB Wf a = true) (hc : cls Df (siz Wf a) = 4) (w : World) :
    Calls Tryd.prog 34 #[.int .i64 f, .int .i64 t, .int .i64 mode, .int .i64 a] w fun e w' => e = .returned (.tuple #[.int .i64 (jn W 0 (qz D)), .int .i64 0, .int .i64 0]) ∧ Below w.heap.size w w' := by
  have hkl := hkf.kl
  have h := hkt.kl
  have hs := sgn_s Wf a
  have Ho := Lib.hid (fun w' => open_c Wf Df Ef a hkl hv w')
  rw [hc] at Ho
  clear hc
  have Hf := Lib.hid hkf; clear hkf
  have Ht := Lib.hid hkt; clear hkt
  have Hm := Lib.hid hm; clear hm
  go_enter Tryd.func34, Tryd.ntmps34
  go_wp2_with fail
  refine (layoutOf_c f Wf Df Ef Hf.out _).mono ?_
  rintro e wa ⟨rfl, hb⟩
  have hB := hb.alloc hb.size (.cells #[.int .i64 Wf, .int .i64 Df, .int .i64 Ef] 48)
  have hL := Has.new wa [.int .i64 Wf, .int .i64 Df, .int .i64 Ef] 48
  go_wp2_with fail
  refine (layoutOf_c t W D E Ht.out _).mono ?_
  rintro e wb ⟨rfl, hb⟩
  have hB := bt hB hb
  have hL := hL.keep hb
  have hB := hB.alloc hB.size (.cells #[.int .i64 W, .int .i64 D, .int .i64 E] 48)
  have hL := hL.alloc (.cells #[.int .i64 W, .int .i64 D, .int .i64 E] 48)
  have hT := Has.new wb [.int .i64 W, .int .i64 D, .int .i64 E] 48
  go_wp2_with fail
  refine (isMode_c mode Hm.out _).mono ?_
  rintro e w1 ⟨rfl, rfl⟩
  obtain ⟨l0, l1, l2⟩ := hL.c3
  go_wp2_with fail
  refine (holds_c Wf Df Ef a hkl _).mono ?_
  rintro e w1 ⟨rfl, hb⟩
  have hB := bt hB hb
  have hL := hL.keep hb
  have hT := hT.keep hb
  obtain ⟨l0, l1, l2⟩ := hL.c3
  go_wp2_with fail
  refine (Ho.out _).mono ?_
  rintro e w2 ⟨rfl, hb⟩
  have hB := bt hB hb
  have hT := (hT.keep hb).alloc (.cells #[.int .i64 (4), .int .i64 (sgn Wf a), .int .u64 (mant Df (siz Wf a)), .int .i64 (expo Df (siz Wf a))] 70)
  have hX := Has.new w2 [.int .i64 (4), .int .i64 (sgn Wf a), .int .u64 (mant Df (siz Wf a)), .int .i64 (expo Df (siz Wf a))] 70
  have hB := hB.alloc hB.size (.cells #[.int .i64 (4), .int .i64 (sgn Wf a), .int .u64 (mant Df (siz Wf a)), .int .i64 (expo Df (siz Wf a))] 70)
  obtain ⟨x0, x1, x2, x3⟩ := hX.c4
  obtain ⟨t0, t1, t2⟩ := hT.c3
  go_wp2_with fail
  refine (quiet_c W D E h _).mono ?_
  rintro e w3 ⟨rfl, hb⟩
  have hB := bt hB hb
  go_wp2_with fail
  go_ret3
  exact ⟨rfl, hB⟩

set_option maxHeartbeats 2000000 in
theorem Convert_inf (f Wf Df Ef t W D E mode a : Int) (hkf : KK f Wf Df Ef) (hkt : KK t W D E) (hm : Mode mode) (hv : okB Wf a = true) (hc : cls Df (siz Wf a) = 3) (w : World) :
    Calls Tryd.prog 34 #[.int .i64 f, .int .i64 t, .int .i64 mode, .int .i64 a] w fun e w' => e = .returned (.tuple #[.int .i64 (jn W (sgn Wf a) (endl D)), .int .i64 0, .int .i64 0]) ∧ Below w.heap.size w w' := by
  have hkl := hkf.kl
  have h := hkt.kl
  have hs := sgn_s Wf a
  have Ho := Lib.hid (fun w' => open_c Wf Df Ef a hkl hv w')
  rw [hc] at Ho
  clear hc
  have Hf := Lib.hid hkf; clear hkf
  have Ht := Lib.hid hkt; clear hkt
  have Hm := Lib.hid hm; clear hm
  go_enter Tryd.func34, Tryd.ntmps34
  go_wp2_with fail
  refine (layoutOf_c f Wf Df Ef Hf.out _).mono ?_
  rintro e wa ⟨rfl, hb⟩
  have hB := hb.alloc hb.size (.cells #[.int .i64 Wf, .int .i64 Df, .int .i64 Ef] 48)
  have hL := Has.new wa [.int .i64 Wf, .int .i64 Df, .int .i64 Ef] 48
  go_wp2_with fail
  refine (layoutOf_c t W D E Ht.out _).mono ?_
  rintro e wb ⟨rfl, hb⟩
  have hB := bt hB hb
  have hL := hL.keep hb
  have hB := hB.alloc hB.size (.cells #[.int .i64 W, .int .i64 D, .int .i64 E] 48)
  have hL := hL.alloc (.cells #[.int .i64 W, .int .i64 D, .int .i64 E] 48)
  have hT := Has.new wb [.int .i64 W, .int .i64 D, .int .i64 E] 48
  go_wp2_with fail
  refine (isMode_c mode Hm.out _).mono ?_
  rintro e w1 ⟨rfl, rfl⟩
  obtain ⟨l0, l1, l2⟩ := hL.c3
  go_wp2_with fail
  refine (holds_c Wf Df Ef a hkl _).mono ?_
  rintro e w1 ⟨rfl, hb⟩
  have hB := bt hB hb
  have hL := hL.keep hb
  have hT := hT.keep hb
  obtain ⟨l0, l1, l2⟩ := hL.c3
  go_wp2_with fail
  refine (Ho.out _).mono ?_
  rintro e w2 ⟨rfl, hb⟩
  have hB := bt hB hb
  have hT := (hT.keep hb).alloc (.cells #[.int .i64 (3), .int .i64 (sgn Wf a), .int .u64 (mant Df (siz Wf a)), .int .i64 (expo Df (siz Wf a))] 70)
  have hX := Has.new w2 [.int .i64 (3), .int .i64 (sgn Wf a), .int .u64 (mant Df (siz Wf a)), .int .i64 (expo Df (siz Wf a))] 70
  have hB := hB.alloc hB.size (.cells #[.int .i64 (3), .int .i64 (sgn Wf a), .int .u64 (mant Df (siz Wf a)), .int .i64 (expo Df (siz Wf a))] 70)
  obtain ⟨x0, x1, x2, x3⟩ := hX.c4
  obtain ⟨t0, t1, t2⟩ := hT.c3
  go_wp2_with fail
  refine (infinite_c W D E _ h hs _).mono ?_
  rintro e w3 ⟨rfl, hb⟩
  have hB := bt hB hb
  go_wp2_with fail
  go_ret3
  exact ⟨rfl, hB⟩

set_option maxHeartbeats 2000000 in
theorem Convert_zero (f Wf Df Ef t W D E mode a : Int) (hkf : KK f Wf Df Ef) (hkt : KK t W D E) (hm : Mode mode) (hv : okB Wf a = true) (hc : cls Df (siz Wf a) = 0) (w : World) :
    Calls Tryd.prog 34 #[.int .i64 f, .int .i64 t, .int .i64 mode, .int .i64 a] w fun e w' => e = .returned (.tuple #[.int .i64 (jn W (sgn Wf a) 0), .int .i64 0, .int .i64 0]) ∧ Below w.heap.size w w' := by
  have hkl := hkf.kl
  have h := hkt.kl
  have hs := sgn_s Wf a
  have Ho := Lib.hid (fun w' => open_c Wf Df Ef a hkl hv w')
  rw [hc] at Ho
  clear hc
  have H0 : Hid (0 < hf W) := Lib.hid (by rcases h with ⟨rfl, rfl, rfl⟩ | ⟨rfl, rfl, rfl⟩ | ⟨rfl, rfl, rfl⟩ <;> decide)
  have Hf := Lib.hid hkf; clear hkf
  have Ht := Lib.hid hkt; clear hkt
  have Hm := Lib.hid hm; clear hm
  go_enter Tryd.func34, Tryd.ntmps34
  go_wp2_with fail
  refine (layoutOf_c f Wf Df Ef Hf.out _).mono ?_
  rintro e wa ⟨rfl, hb⟩
  have hB := hb.alloc hb.size (.cells #[.int .i64 Wf, .int .i64 Df, .int .i64 Ef] 48)
  have hL := Has.new wa [.int .i64 Wf, .int .i64 Df, .int .i64 Ef] 48
  go_wp2_with fail
  refine (layoutOf_c t W D E Ht.out _).mono ?_
  rintro e wb ⟨rfl, hb⟩
  have hB := bt hB hb
  have hL := hL.keep hb
  have hB := hB.alloc hB.size (.cells #[.int .i64 W, .int .i64 D, .int .i64 E] 48)
  have hL := hL.alloc (.cells #[.int .i64 W, .int .i64 D, .int .i64 E] 48)
  have hT := Has.new wb [.int .i64 W, .int .i64 D, .int .i64 E] 48
  go_wp2_with fail
  refine (isMode_c mode Hm.out _).mono ?_
  rintro e w1 ⟨rfl, rfl⟩
  obtain ⟨l0, l1, l2⟩ := hL.c3
  go_wp2_with fail
  refine (holds_c Wf Df Ef a hkl _).mono ?_
  rintro e w1 ⟨rfl, hb⟩
  have hB := bt hB hb
  have hL := hL.keep hb
  have hT := hT.keep hb
  obtain ⟨l0, l1, l2⟩ := hL.c3
  go_wp2_with fail
  refine (Ho.out _).mono ?_
  rintro e w2 ⟨rfl, hb⟩
  have hB := bt hB hb
  have hT := (hT.keep hb).alloc (.cells #[.int .i64 (0), .int .i64 (sgn Wf a), .int .u64 (mant Df (siz Wf a)), .int .i64 (expo Df (siz Wf a))] 70)
  have hX := Has.new w2 [.int .i64 (0), .int .i64 (sgn Wf a), .int .u64 (mant Df (siz Wf a)), .int .i64 (expo Df (siz Wf a))] 70
  have hB := hB.alloc hB.size (.cells #[.int .i64 (0), .int .i64 (sgn Wf a), .int .u64 (mant Df (siz Wf a)), .int .i64 (expo Df (siz Wf a))] 70)
  obtain ⟨x0, x1, x2, x3⟩ := hX.c4
  obtain ⟨t0, t1, t2⟩ := hT.c3
  go_wp2_with fail
  refine (join_c W D E _ 0 h hs (Int.le_refl _) H0.out _).mono ?_
  rintro e w3 ⟨rfl, hb⟩
  have hB := bt hB hb
  go_wp2_with fail
  go_ret3
  exact ⟨rfl, hB⟩

set_option maxHeartbeats 2000000 in
theorem Convert_fin (f Wf Df Ef t W D E mode a : Int) (hkf : KK f Wf Df Ef) (hkt : KK t W D E) (hm : Mode mode) (hv : okB Wf a = true) (hc : cls Df (siz Wf a) = 1 ∨ cls Df (siz Wf a) = 2) (w : World) :
    Calls Tryd.prog 34 #[.int .i64 f, .int .i64 t, .int .i64 mode, .int .i64 a] w fun e w' => e = .returned (.tuple #[.int .i64 (roundF W D mode (sgn Wf a) (mant Df (siz Wf a)).toNat (expo Df (siz Wf a)) false).1, .int .i64 (roundF W D mode (sgn Wf a) (mant Df (siz Wf a)).toNat (expo Df (siz Wf a)) false).2, .int .i64 0]) ∧ Below w.heap.size w w' := by
  have hkl := hkf.kl
  have h := hkt.kl
  have hs := sgn_s Wf a
  have Ho := Lib.hid (fun w' => open_c Wf Df Ef a hkl hv w')
  obtain ⟨z0, z1⟩ := siz_b Wf Df Ef a hkl
  obtain ⟨m0, m1, _⟩ := mant_b Wf Df Ef _ hkl z0 z1
  obtain ⟨e0, e1, _⟩ := expo_b Wf Df Ef _ hkl z0 (by rcases hc with c | c <;> omega)
  have mp := mant_pos Wf Df Ef a hkl hc
  have hbd := hid_b Wf Df Ef hkl
  have hbt := hid_b W D E h
  have hDt := (hid_pow W D E h).2.2
  have hbl : (bl (mant Df (siz Wf a)).toNat : Int) ≤ 54 := by have := bl_mono_le (mant Df (siz Wf a)).toNat 54 (by omega); omega
  have Hr := Lib.hid (fun w' => round_c W D E mode (sgn Wf a) 0 (mant Df (siz Wf a)) (expo Df (siz Wf a)) false h hm hs ⟨by omega, by omega⟩ ⟨by omega, by omega⟩ (by rw [nn_zero]; omega) (by omega) (by rw [nn_zero]; omega) w')
  rw [nn_zero] at Hr
  have hc0 : (cls Df (siz Wf a) == 0) = false ∧ (cls Df (siz Wf a) == 3) = false ∧ (cls Df (siz Wf a) == 4) = false := by rcases hc with c | c <;> rw [c] <;> decide
  obtain ⟨c0, c3, c4⟩ := hc0
  clear z0 z1 m0 m1 e0 e1 mp hbd hbt hDt hbl hc
  have Hf := Lib.hid hkf; clear hkf
  have Ht := Lib.hid hkt; clear hkt
  have Hm := Lib.hid hm; clear hm
  go_enter Tryd.func34, Tryd.ntmps34
  go_wp2_with fail
  refine (layoutOf_c f Wf Df Ef Hf.out _).mono ?_
  rintro e wa ⟨rfl, hb⟩
  have hB := hb.alloc hb.size (.cells #[.int .i64 Wf, .int .i64 Df, .int .i64 Ef] 48)
  have hL := Has.new wa [.int .i64 Wf, .int .i64 Df, .int .i64 Ef] 48
  go_wp2_with fail
  refine (layoutOf_c t W D E Ht.out _).mono ?_
  rintro e wb ⟨rfl, hb⟩
  have hB := bt hB hb
  have hL := hL.keep hb
  have hB := hB.alloc hB.size (.cells #[.int .i64 W, .int .i64 D, .int .i64 E] 48)
  have hL := hL.alloc (.cells #[.int .i64 W, .int .i64 D, .int .i64 E] 48)
  have hT := Has.new wb [.int .i64 W, .int .i64 D, .int .i64 E] 48
  go_wp2_with fail
  refine (isMode_c mode Hm.out _).mono ?_
  rintro e w1 ⟨rfl, rfl⟩
  obtain ⟨l0, l1, l2⟩ := hL.c3
  go_wp2_with fail
  refine (holds_c Wf Df Ef a hkl _).mono ?_
  rintro e w1 ⟨rfl, hb⟩
  have hB := bt hB hb
  have hL := hL.keep hb
  have hT := hT.keep hb
  obtain ⟨l0, l1, l2⟩ := hL.c3
  go_wp2_with fail
  refine (Ho.out _).mono ?_
  rintro e w2 ⟨rfl, hb⟩
  have hB := bt hB hb
  have hT := (hT.keep hb).alloc (.cells #[.int .i64 (cls Df (siz Wf a)), .int .i64 (sgn Wf a), .int .u64 (mant Df (siz Wf a)), .int .i64 (expo Df (siz Wf a))] 70)
  have hX := Has.new w2 [.int .i64 (cls Df (siz Wf a)), .int .i64 (sgn Wf a), .int .u64 (mant Df (siz Wf a)), .int .i64 (expo Df (siz Wf a))] 70
  have hB := hB.alloc hB.size (.cells #[.int .i64 (cls Df (siz Wf a)), .int .i64 (sgn Wf a), .int .u64 (mant Df (siz Wf a)), .int .i64 (expo Df (siz Wf a))] 70)
  obtain ⟨x0, x1, x2, x3⟩ := hX.c4
  obtain ⟨t0, t1, t2⟩ := hT.c3
  go_wp2_with fail
  refine (Hr.out _).mono ?_
  rintro e w3 ⟨rfl, hb⟩
  have hB := bt hB hb
  go_wp2_with fail
  go_ret3
  exact ⟨rfl, hB⟩
end Go.Proofs.YtfdenbgmogojeaaDoor
