/- Contract of package float's quotient: the quotient of two numbers to 63 or 64 digits, and whether something is left; premises as written. -/
import Derived.Test.YtfdenbgmogojeaaDoorFloSb
import Derived.Test.YtfdenbgmogojeaaDoorFloDv
import Derived.Deep.QuietTactic
import Derived.BigQuiet
namespace Go.Proofs.YtfdenbgmogojeaaDoor
open Go.RowKit Go.Lib
theorem quiet_add_sameq {P : Program} {f : FuncId} {args : Array Value} {w : World} {a n : Nat} {v : Value}
    (h : Calls P f args (w.drewN (a + n)) fun e w' => e = .returned v ∧ w' = w.drewN (a + n)) :
    Calls P f args (w.drewN (a + n)) fun e w'' => e = .returned v ∧ ∃ m, w'' = w.drewN (a + m) :=
  h.mono fun _ _ ⟨he, hm⟩ => ⟨he, n, hm⟩

theorem res105 (tm : Array Value) (R : Nat) (a b c d e : Value) (w : World) (hp : tm[4]?.getD undef = .pointer (some ⟨R, 0, none⟩)) (h : Has w R [a, b, c, d, e]) :
    (results Tryd.f105 tm).run Tryd.prog w = .ok (.agg #[a, b, c, d, e]) w := by
  obtain ⟨h0, h1, h2, h3, h4⟩ := h.c5
  simp [results, Tryd.results105, go_sem, hp, h0, h1, h2, h3, h4]
theorem Has.drewNq {w : World} {n : Nat} {xs : List Value} (h : Has w n xs) (k : Nat) : Has (w.drewN k) n xs := h
theorem below_drewNq {B : Nat} {a w : World} (h : Below B a w) (n : Nat) : Below B a (w.drewN n) := ⟨h.os, h.tape, h.output, h.size, h.block⟩

/-- The quotient of two numbers, to 63 or 64 digits. -/
def quU (X : Nat) : Nat := X * 2 ^ (63 - bl X)
def quV (Y : Nat) : Nat := Y * 2 ^ (64 - bl Y)
def quN (X Y : Nat) : Nat := quU X * 18446744073709551616 / quV Y
def quR (X Y : Nat) : Nat := quU X * 18446744073709551616 % quV Y
def quE (X : Nat) (ex : Int) (Y : Nat) (ey : Int) : Int := ex - ((64 - bl X : Nat) : Int) - (ey - ((64 - bl Y : Nat) : Int)) - 63
theorem bl_ge (n : Nat) (h : n ≠ 0) : 2 ^ (bl n - 1) ≤ n := by
  unfold bl; rw [if_neg h, Nat.add_sub_cancel]; exact Nat.log2_self_le h
theorem qu_b (X Y : Nat) (x0 : 0 < X) (x1 : X < 18014398509481984) (y0 : 0 < Y) (y1 : Y < 18014398509481984) :
    X * 2 ^ (64 - bl X) < 18446744073709551616 ∧ X * 2 ^ (64 - bl X) / 2 = quU X ∧ 9223372036854775808 ≤ quV Y ∧ quV Y < 18446744073709551616 ∧ 0 < quU X ∧ quU X < 9223372036854775808 := by
  have hx : bl X ≤ 54 := bl_mono_le _ 54 (by omega)
  have hy : bl Y ≤ 54 := bl_mono_le _ 54 (by omega)
  have hy0 := bl_pos Y (by omega)
  have p1 : X * 2 ^ (64 - bl X) < 2 ^ bl X * 2 ^ (64 - bl X) := Nat.mul_lt_mul_of_pos_right (bl_lt X) (Nat.two_pow_pos _)
  rw [← Nat.pow_add, show bl X + (64 - bl X) = 64 by omega] at p1
  have p2 : Y * 2 ^ (64 - bl Y) < 2 ^ bl Y * 2 ^ (64 - bl Y) := Nat.mul_lt_mul_of_pos_right (bl_lt Y) (Nat.two_pow_pos _)
  rw [← Nat.pow_add, show bl Y + (64 - bl Y) = 64 by omega] at p2
  have p3 : 2 ^ (bl Y - 1) * 2 ^ (64 - bl Y) ≤ Y * 2 ^ (64 - bl Y) := Nat.mul_le_mul_right _ (bl_ge Y (by omega))
  rw [← Nat.pow_add, show bl Y - 1 + (64 - bl Y) = 63 by omega] at p3
  have p4 : X * 2 ^ (64 - bl X) = 2 * quU X := by
    unfold quU; rw [show 64 - bl X = (63 - bl X) + 1 by omega, Nat.pow_succ, ← Nat.mul_assoc, Nat.mul_comm]
  have p5 : 0 < quU X := Nat.mul_pos x0 (Nat.two_pow_pos _)
  unfold quV
  omega

set_option maxHeartbeats 4000000 in
theorem quotient_c (cx sx ex cy sy ey : Int) (X Y : Nat) (x0 : 0 < X) (x1 : (X : Int) ≤ 18014398509481983) (y0 : 0 < Y) (y1 : (Y : Int) ≤ 18014398509481983) (ex0 : -1100 ≤ ex) (ex1 : ex ≤ 1000) (ey0 : -1100 ≤ ey) (ey1 : ey ≤ 1000) (w : World) :
    Calls Tryd.prog 105 #[num cx sx X ex, num cy sy Y ey] w fun e w' => e = .returned (exa 0 0 (quN X Y : Int) (quE X ex Y ey) (decide (quR X Y ≠ 0))) ∧ Below w.heap.size w w' := by
  have hx : bl X ≤ 54 := bl_mono_le _ 54 (by omega)
  have hy : bl Y ≤ 54 := bl_mono_le _ 54 (by omega)
  obtain ⟨q1, q2, q3, q4, q5, q6⟩ := qu_b X Y x0 (by omega) y0 (by omega)
  have hQ : quN X Y = quU X * 18446744073709551616 / quV Y := rfl
  have hR : quR X Y = quU X * 18446744073709551616 % quV Y := rfl
  have hE : ex - ((64 - bl X : Nat) : Int) - (ey - ((64 - bl Y : Nat) : Int)) - 63 = quE X ex Y ey := rfl
  obtain ⟨U2, hU2⟩ : ∃ U2, U2 = X * 2 ^ (64 - bl X) := ⟨_, rfl⟩
  rw [← hU2] at q1 q2
  have hU2i : (X : Int) * 2 ^ (64 - bl X) = (U2 : Int) := by rw [hU2]; simp
  have hVi : (Y : Int) * 2 ^ (64 - bl Y) = (quV Y : Int) := by unfold quV; simp
  generalize quU X = U at *
  generalize quV Y = V at *
  generalize quN X Y = Q at *
  generalize quR X Y = R at *
  generalize quE X ex Y ey = EE at *
  have hDv : ∀ w', Calls Tryd.prog 119 #[.int .u64 (U : Int), .int .u64 0, .int .u64 (V : Int)] w' fun e w'' => e = .returned (.tuple #[.int .u64 (Q : Int), .int .u64 (R : Int)]) ∧ w'' = w' := fun w' => by
    refine (Div64_c U V q3 q4 (by omega) q5 w').mono ?_
    rintro e w'' ⟨rfl, rfl⟩
    exact ⟨by rw [hQ, hR], rfl⟩
  have HDv := Lib.hid hDv; clear hDv
  obtain ⟨a, ha⟩ : ∃ a : Nat, a = 64 - bl X := ⟨_, rfl⟩
  obtain ⟨b, hb⟩ : ∃ b : Nat, b = 64 - bl Y := ⟨_, rfl⟩
  have l1 : ∀ w', Calls Tryd.prog 106 #[.int .u64 (X : Int)] w' fun e w'' => e = .returned (.int .i64 (a : Int)) ∧ w'' = w' := fun w' => by
    refine (LeadingZeros64_c (X : Int) (by omega) (by omega) w').mono ?_
    rintro e w'' ⟨rfl, rfl⟩
    exact ⟨by rw [Int.toNat_natCast, show (64 : Int) - (bl X : Int) = (a : Int) by omega], rfl⟩
  have l2 : ∀ w', Calls Tryd.prog 106 #[.int .u64 (Y : Int)] w' fun e w'' => e = .returned (.int .i64 (b : Int)) ∧ w'' = w' := fun w' => by
    refine (LeadingZeros64_c (Y : Int) (by omega) (by omega) w').mono ?_
    rintro e w'' ⟨rfl, rfl⟩
    exact ⟨by rw [Int.toNat_natCast, show (64 : Int) - (bl Y : Int) = (b : Int) by omega], rfl⟩
  have L1 := Lib.hid l1; clear l1
  have L2 := Lib.hid l2; clear l2
  have a1 : (a : Int) ≤ 64 := by omega
  have b1 : (b : Int) ≤ 64 := by omega
  have a0 : (0 : Int) ≤ a := by omega
  have b0 : (0 : Int) ≤ b := by omega
  rw [← ha] at hE hU2i
  rw [← hb] at hE hVi
  have e1 : IntKind.u64.wrap ((X : Int) * 2 ^ a) = (U2 : Int) := by rw [hU2i, IntKind.wrap_u64]; omega
  have e2 : IntKind.u64.wrap ((Y : Int) * 2 ^ b) = (V : Int) := by rw [hVi, IntKind.wrap_u64]; omega
  have e3 : (U2 : Int) / 2 = (U : Int) := by omega
  have HE := Lib.hid hE; clear hE
  clear ha hb hx hy q1 q2 q3 q4 q5 q6 hQ hR hU2 hU2i hVi x0 y0
  obtain ⟨mo, hmo⟩ : ∃ mo : Bool, mo = decide (R ≠ 0) := ⟨_, rfl⟩
  have hmo2 : ((R : Int) != 0) = mo := by rw [hmo, Bool.eq_iff_iff]; simp
  have Hmo := Lib.hid hmo; clear hmo
  go_enter Tryd.func105, Tryd.ntmps105
  go_wp2_with fail
  go_quiet ((first | (go_at_call_of 106 (Value.int IntKind.u64 (X : Int)); exact Calls.quiet_of_same (L1.out _)) | (go_at_call_of 106 (Value.int IntKind.u64 (Y : Int)); exact Calls.quiet_of_same (L2.out _))))
  go_wp2_with fail
  go_quiet ((go_at_call 119; exact quiet_add_sameq (HDv.out _)))
  go_wp2_with fail
  have hR := Has.new ((w.alloc (.cells (List.toArray [.int .i64 cx, .int .i64 sx, .int .u64 (X : Int), .int .i64 ex]) 70)).alloc (.cells (List.toArray [.int .i64 cy, .int .i64 sy, .int .u64 (Y : Int), .int .i64 ey]) 70)) [.int .i64 0, .int .u64 0, .int .u64 0, .int .i64 0, .bool false] 77
  rw [World.size_alloc, World.size_alloc] at hR
  have hB : Below w.heap.size w (((w.alloc (.cells (List.toArray [.int .i64 cx, .int .i64 sx, .int .u64 (X : Int), .int .i64 ex]) 70)).alloc (.cells (List.toArray [.int .i64 cy, .int .i64 sy, .int .u64 (Y : Int), .int .i64 ey]) 70)).alloc (.cells (List.toArray [.int .i64 0, .int .u64 0, .int .u64 0, .int .i64 0, .bool false]) 77)) := by go_grown
  refine bodyPost_ret (res105 _ (w.heap.size + 1 + 1) _ _ _ _ _ _ rfl ((((((hR.drewNq _).set).set).set).set).set)) rfl ⟨ret_exa rfl rfl rfl HE.out Hmo.out, (((((below_drewNq hB _).st (by omega)).st (by omega)).st (by omega)).st (by omega)).st (by omega)⟩
end Go.Proofs.YtfdenbgmogojeaaDoor
