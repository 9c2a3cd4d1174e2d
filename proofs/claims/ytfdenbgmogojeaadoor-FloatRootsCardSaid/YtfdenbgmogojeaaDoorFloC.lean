/- Contracts of package float's Class, Valid and Next: each returns what the plain mathematics says, for every kind and every float of it. -/
import Derived.Test.YtfdenbgmogojeaaDoorFloB
namespace Go.Proofs.YtfdenbgmogojeaaDoor
open Go.RowKit

theorem cls_nn (D z : Int) : 0 ≤ cls D z ∧ cls D z ≤ 4 := by
  unfold cls; repeat' split
  all_goals omega

set_option maxHeartbeats 1000000 in
theorem Class_c (k W D E a : Int) (i : Nat) (n : ByteArray) (hk : KK k W D E) (hv : okB W a = true) (hi : i < 5) (hc : cls D (siz W a) = (i : Int)) (w : World) (hw : w.cell? ⟨0, i, none⟩ = some (.string n)) :
    Calls Tryd.prog 42 #[.int .i64 k, .int .i64 a] w fun e w' => e = .returned (.string n) ∧ Below w.heap.size w w' := by
  have h := hk.kl
  have Hk := Lib.hid hk; clear hk
  have Hc := Lib.hid hc; clear hc
  have hn := World.block_lt_of_cell? w _ hw
  go_enter Tryd.func42, Tryd.ntmps42
  go_wp2_with fail
  refine (layoutOf_c k W D E Hk.out _).mono ?_
  rintro e w1 ⟨rfl, hb⟩
  obtain ⟨hB, hc0, hc1, hc2⟩ := keepA (a := .int .i64 W) (b := .int .i64 D) (c := .int .i64 E) (t := 48) hb
  go_wp2_with fail
  refine (holds_c W D E a h _).mono ?_
  rintro e w1 ⟨rfl, hb⟩
  obtain ⟨hB, hc0, hc1, hc2⟩ := keepL ⟨hB, hc0, hc1, hc2⟩ hb
  go_wp2_with fail
  refine (class_c W D E a h _).mono ?_
  rw [Hc.out]
  rintro e w1 ⟨rfl, hb⟩
  obtain ⟨hB, hc0, hc1, hc2⟩ := keepL ⟨hB, hc0, hc1, hc2⟩ hb
  have hg : w1.cell? ⟨0, i, none⟩ = some (.string n) := by rw [hB.cell (p := ⟨0, i, none⟩) hn]; exact hw
  clear hw
  go_wp2
  go_ret
  exact ⟨rfl, hB⟩

set_option maxHeartbeats 1000000 in
theorem Class_no (k a : Int) (h2 : (k == 2) = false) (h4 : (k == 4) = false) (h8 : (k == 8) = false) (w : World) :
    Calls Tryd.prog 42 #[.int .i64 k, .int .i64 a] w fun e w' => e = .returned (.string ⟨#[]⟩) ∧ Below w.heap.size w w' := by
  go_enter Tryd.func42, Tryd.ntmps42
  go_wp2_with fail
  refine (layoutOf_no k h2 h4 h8 _).mono ?_
  rintro e w1 ⟨rfl, hb⟩
  obtain ⟨hB, hc0, hc1, hc2⟩ := keepA (a := .int .i64 0) (b := .int .i64 0) (c := .int .i64 0) (t := 48) hb
  go_wp2
  go_ret
  exact ⟨rfl, hB⟩

set_option maxHeartbeats 1000000 in
theorem Class_out (k W D E a : Int) (hk : KK k W D E) (hv : okB W a = false) (w : World) :
    Calls Tryd.prog 42 #[.int .i64 k, .int .i64 a] w fun e w' => e = .returned (.string ⟨#[]⟩) ∧ Below w.heap.size w w' := by
  have h := hk.kl
  have Hk := Lib.hid hk; clear hk
  go_enter Tryd.func42, Tryd.ntmps42
  go_wp2_with fail
  refine (layoutOf_c k W D E Hk.out _).mono ?_
  rintro e w1 ⟨rfl, hb⟩
  obtain ⟨hB, hc0, hc1, hc2⟩ := keepA (a := .int .i64 W) (b := .int .i64 D) (c := .int .i64 E) (t := 48) hb
  go_wp2_with fail
  refine (holds_c W D E a h _).mono ?_
  rintro e w1 ⟨rfl, hb⟩
  obtain ⟨hB, hc0, hc1, hc2⟩ := keepL ⟨hB, hc0, hc1, hc2⟩ hb
  go_wp2
  go_ret
  exact ⟨rfl, hB⟩

set_option maxHeartbeats 1000000 in
theorem Valid_c (k W D E a : Int) (hk : KK k W D E) (w : World) :
    Calls Tryd.prog 28 #[.int .i64 k, .int .i64 a] w fun e w' => e = .returned (.bool (okB W a)) ∧ Below w.heap.size w w' := by
  have h := hk.kl
  have Hk := Lib.hid hk; clear hk
  go_enter Tryd.func28, Tryd.ntmps28
  go_wp2_with fail
  refine (layoutOf_c k W D E Hk.out _).mono ?_
  rintro e w1 ⟨rfl, hb⟩
  obtain ⟨hB, hc0, hc1, hc2⟩ := keepA (a := .int .i64 W) (b := .int .i64 D) (c := .int .i64 E) (t := 48) hb
  go_wp2_with fail
  refine (holds_c W D E a h _).mono ?_
  rintro e w1 ⟨rfl, hb⟩
  obtain ⟨hB, hc0, hc1, hc2⟩ := keepL ⟨hB, hc0, hc1, hc2⟩ hb
  go_wp2
  go_ret
  exact ⟨rfl, hB⟩

set_option maxHeartbeats 1000000 in
theorem Valid_no (k a : Int) (h2 : (k == 2) = false) (h4 : (k == 4) = false) (h8 : (k == 8) = false) (w : World) :
    Calls Tryd.prog 28 #[.int .i64 k, .int .i64 a] w fun e w' => e = .returned (.bool false) ∧ Below w.heap.size w w' := by
  go_enter Tryd.func28, Tryd.ntmps28
  go_wp2_with fail
  refine (layoutOf_no k h2 h4 h8 _).mono ?_
  rintro e w1 ⟨rfl, hb⟩
  obtain ⟨hB, hc0, hc1, hc2⟩ := keepA (a := .int .i64 0) (b := .int .i64 0) (c := .int .i64 0) (t := 48) hb
  go_wp2
  go_ret
  exact ⟨rfl, hB⟩

set_option maxHeartbeats 1000000 in
theorem Next_no (k a : Int) (up : Bool) (h2 : (k == 2) = false) (h4 : (k == 4) = false) (h8 : (k == 8) = false) (w : World) :
    Calls Tryd.prog 46 #[.int .i64 k, .int .i64 a, .bool up] w fun e w' => e = .returned (.tuple #[.int .i64 0, .int .i64 2]) ∧ Below w.heap.size w w' := by
  go_enter Tryd.func46, Tryd.ntmps46
  go_wp2_with fail
  refine (layoutOf_no k h2 h4 h8 _).mono ?_
  rintro e w1 ⟨rfl, hb⟩
  obtain ⟨hB, hc0, hc1, hc2⟩ := keepA (a := .int .i64 0) (b := .int .i64 0) (c := .int .i64 0) (t := 48) hb
  go_wp2
  go_ret2
  exact ⟨rfl, hB⟩

set_option maxHeartbeats 1000000 in
theorem Next_out (k W D E a : Int) (up : Bool) (hk : KK k W D E) (hv : okB W a = false) (w : World) :
    Calls Tryd.prog 46 #[.int .i64 k, .int .i64 a, .bool up] w fun e w' => e = .returned (.tuple #[.int .i64 0, .int .i64 2]) ∧ Below w.heap.size w w' := by
  have h := hk.kl
  have Hk := Lib.hid hk; clear hk
  go_enter Tryd.func46, Tryd.ntmps46
  go_wp2_with fail
  refine (layoutOf_c k W D E Hk.out _).mono ?_
  rintro e w1 ⟨rfl, hb⟩
  obtain ⟨hB, hc0, hc1, hc2⟩ := keepA (a := .int .i64 W) (b := .int .i64 D) (c := .int .i64 E) (t := 48) hb
  go_wp2_with fail
  refine (holds_c W D E a h _).mono ?_
  rintro e w1 ⟨rfl, hb⟩
  obtain ⟨hB, hc0, hc1, hc2⟩ := keepL ⟨hB, hc0, hc1, hc2⟩ hb
  go_wp2
  go_ret2
  exact ⟨rfl, hB⟩

def side (up : Bool) : Int := if up then 0 else 1
theorem side01 (up : Bool) : side up = 0 ∨ side up = 1 := by cases up <;> simp [side]
theorem side10 (up : Bool) : 1 - side up = 0 ∨ 1 - side up = 1 := by cases up <;> simp [side]

/-- The next float. -/
def nextF (W D a : Int) (up : Bool) : Int :=
  if cls D (siz W a) = 4 then jn W 0 (qz D)
  else if cls D (siz W a) = 0 then jn W (side up) 1
  else if sgn W a ≠ side up then jn W (1 - side up) (siz W a - 1)
  else if cls D (siz W a) = 3 then a
  else jn W (side up) (siz W a + 1)

theorem cls_pos {D z : Int} (hz : 0 ≤ z) (hc : ¬ cls D z = 0) : 1 ≤ z := by
  by_cases c : z = 0
  · subst c; exact absurd (by simp [cls]) hc
  · omega
theorem cls_lt {W D E z : Int} (h : KL W D E) (hc : ¬ cls D z = 4) : z ≤ endl D := by
  unfold cls at hc
  have hh : hid D ≤ endl D ∧ 0 ≤ endl D := by rcases h with ⟨rfl, rfl, rfl⟩ | ⟨rfl, rfl, rfl⟩ | ⟨rfl, rfl, rfl⟩ <;> decide
  repeat' split at hc
  all_goals omega
theorem one_b {W D E : Int} (h : KL W D E) : (0 : Int) ≤ 1 ∧ 1 < hf W := by
  rcases h with ⟨rfl, rfl, rfl⟩ | ⟨rfl, rfl, rfl⟩ | ⟨rfl, rfl, rfl⟩ <;> decide
theorem hf_b {W D E : Int} (h : KL W D E) : endl D + 1 < hf W ∧ hf W ≤ 9223372036854775808 := by
  rcases h with ⟨rfl, rfl, rfl⟩ | ⟨rfl, rfl, rfl⟩ | ⟨rfl, rfl, rfl⟩ <;> decide
theorem wrap_dn {W D E z : Int} (h : KL W D E) (h0 : 1 ≤ z) (h1 : z < hf W) : IntKind.u64.wrap (z - 1) = z - 1 := by
  have := (hf_b h).2; rw [IntKind.wrap_u64]; omega
theorem wrap_up {W D E z : Int} (h : KL W D E) (h0 : 0 ≤ z) (h1 : z ≤ endl D) : IntKind.u64.wrap (z + 1) = z + 1 := by
  have := hf_b h; rw [IntKind.wrap_u64]; omega

theorem keepD {w wp : World} {n : Nat} {a b c : Value} (h : Below w.heap.size w wp ∧ wp.cell? ⟨n, 0, none⟩ = some a ∧ wp.cell? ⟨n, 1, none⟩ = some b ∧ wp.cell? ⟨n, 2, none⟩ = some c) :
    Below w.heap.size w wp.drew ∧ wp.drew.cell? ⟨n, 0, none⟩ = some a ∧ wp.drew.cell? ⟨n, 1, none⟩ = some b ∧ wp.drew.cell? ⟨n, 2, none⟩ = some c :=
  ⟨h.1.drew, h.2.1, h.2.2.1, h.2.2.2⟩

set_option maxHeartbeats 2000000 in
theorem Next_c4 (k W D E a : Int) (up : Bool) (hk : KK k W D E) (hv : okB W a = true) (c4 : cls D (siz W a) = 4) (w : World) :
    Calls Tryd.prog 46 #[.int .i64 k, .int .i64 a, .bool up] w fun e w' => e = .returned (.tuple #[.int .i64 (nextF W D a up), .int .i64 0]) ∧ Below w.heap.size w w' := by
    have h := hk.kl
    have Hk := Lib.hid hk; clear hk
    have e4 : (cls D (siz W a) == 4) = true := by simp [c4]
    have hN := Lib.hid (show nextF W D a up = jn W 0 (qz D) by simp [nextF, c4])
    clear c4
    cases up
    all_goals
      go_enter Tryd.func46, Tryd.ntmps46
      go_wp2_with fail
      refine (layoutOf_c k W D E Hk.out _).mono ?_
      rintro e wa ⟨rfl, hb⟩
      obtain ⟨hB, hc0, hc1, hc2⟩ := keepA (a := .int .i64 W) (b := .int .i64 D) (c := .int .i64 E) (t := 48) hb
      go_wp2_with fail
      refine (holds_c W D E a h _).mono ?_
      rintro e w1 ⟨rfl, hb⟩
      obtain ⟨hB, hc0, hc1, hc2⟩ := keepL ⟨hB, hc0, hc1, hc2⟩ hb
      go_wp2_with fail
      go_region_held3 (fun w' => Below w.heap.size w w' ∧ w'.cell? ⟨wa.heap.size, 0, none⟩ = some (.int .i64 W) ∧ w'.cell? ⟨wa.heap.size, 1, none⟩ = some (.int .i64 D) ∧ w'.cell? ⟨wa.heap.size, 2, none⟩ = some (.int .i64 E)) (first | exact keepD ⟨hB, hc0, hc1, hc2⟩ | exact keepL (by assumption) hb)
        (first | (go_at_call 74; refine (class_c W D E a h _).mono ?_; rintro e w' ⟨rfl, hb⟩) | (go_at_call 77; refine (size_c W D E a h _).mono ?_; rintro e w' ⟨rfl, hb⟩))
      rename_i hH
      obtain ⟨hB, hc0, hc1, hc2⟩ := hH
      go_wp2_with fail
      refine (quiet_c W D E h _).mono ?_
      rintro e w1 ⟨rfl, hb⟩
      obtain ⟨hB, hc0, hc1, hc2⟩ := keepL ⟨hB, hc0, hc1, hc2⟩ hb
      go_wp2
      go_ret2
      exact ⟨by rw [hN.out]; rfl, hB⟩

set_option maxHeartbeats 2000000 in
theorem Next_c0 (k W D E a : Int) (up : Bool) (hk : KK k W D E) (hv : okB W a = true) (c0 : cls D (siz W a) = 0) (w : World) :
    Calls Tryd.prog 46 #[.int .i64 k, .int .i64 a, .bool up] w fun e w' => e = .returned (.tuple #[.int .i64 (nextF W D a up), .int .i64 0]) ∧ Below w.heap.size w w' := by
    have h := hk.kl
    have Hk := Lib.hid hk; clear hk
    have e4 : (cls D (siz W a) == 4) = false := by simp [c0]
    have e0 : (cls D (siz W a) == 0) = true := by simp [c0]
    have hN := Lib.hid (show nextF W D a up = jn W (side up) 1 by simp [nextF, c0])
    clear c0
    cases up
    all_goals
      go_enter Tryd.func46, Tryd.ntmps46
      go_wp2_with fail
      refine (layoutOf_c k W D E Hk.out _).mono ?_
      rintro e wa ⟨rfl, hb⟩
      obtain ⟨hB, hc0, hc1, hc2⟩ := keepA (a := .int .i64 W) (b := .int .i64 D) (c := .int .i64 E) (t := 48) hb
      go_wp2_with fail
      refine (holds_c W D E a h _).mono ?_
      rintro e w1 ⟨rfl, hb⟩
      obtain ⟨hB, hc0, hc1, hc2⟩ := keepL ⟨hB, hc0, hc1, hc2⟩ hb
      go_wp2_with fail
      go_region_held3 (fun w' => Below w.heap.size w w' ∧ w'.cell? ⟨wa.heap.size, 0, none⟩ = some (.int .i64 W) ∧ w'.cell? ⟨wa.heap.size, 1, none⟩ = some (.int .i64 D) ∧ w'.cell? ⟨wa.heap.size, 2, none⟩ = some (.int .i64 E)) (first | exact keepD ⟨hB, hc0, hc1, hc2⟩ | exact keepL (by assumption) hb)
        (first | (go_at_call 74; refine (class_c W D E a h _).mono ?_; rintro e w' ⟨rfl, hb⟩) | (go_at_call 77; refine (size_c W D E a h _).mono ?_; rintro e w' ⟨rfl, hb⟩))
      rename_i hH
      obtain ⟨hB, hc0, hc1, hc2⟩ := hH
      go_wp2_with fail
      refine (join_c W D E _ 1 h (by simp) (one_b h).1 (one_b h).2 _).mono ?_
      rintro e w1 ⟨rfl, hb⟩
      obtain ⟨hB, hc0, hc1, hc2⟩ := keepL ⟨hB, hc0, hc1, hc2⟩ hb
      go_wp2
      go_ret2
      exact ⟨by rw [hN.out]; rfl, hB⟩

set_option maxHeartbeats 2000000 in
theorem Next_c1 (k W D E a : Int) (up : Bool) (hk : KK k W D E) (hv : okB W a = true) (c4 : ¬ cls D (siz W a) = 4) (c0 : ¬ cls D (siz W a) = 0) (cs : sgn W a ≠ side up) (w : World) :
    Calls Tryd.prog 46 #[.int .i64 k, .int .i64 a, .bool up] w fun e w' => e = .returned (.tuple #[.int .i64 (nextF W D a up), .int .i64 0]) ∧ Below w.heap.size w w' := by
    have h := hk.kl
    have Hk := Lib.hid hk; clear hk
    have e4 : (cls D (siz W a) == 4) = false := by simp [c4]
    have e0 : (cls D (siz W a) == 0) = false := by simp [c0]
    have hz1 := cls_pos (siz_b W D E a h).1 c0
    have hz2 := Lib.hid (siz_b W D E a h).2
    have hwz := wrap_dn h hz1 hz2.out
    have es : (sgn W a != side up) = true := by simp [cs]
    have hN := Lib.hid (show nextF W D a up = jn W (1 - side up) (siz W a - 1) by simp [nextF, c0, c4, cs])
    clear c0 c4 cs
    simp only [side] at es
    cases up <;> simp only [if_true, if_false, Bool.false_eq_true] at es
    all_goals
      go_enter Tryd.func46, Tryd.ntmps46
      go_wp2_with fail
      refine (layoutOf_c k W D E Hk.out _).mono ?_
      rintro e wa ⟨rfl, hb⟩
      obtain ⟨hB, hc0, hc1, hc2⟩ := keepA (a := .int .i64 W) (b := .int .i64 D) (c := .int .i64 E) (t := 48) hb
      go_wp2_with fail
      refine (holds_c W D E a h _).mono ?_
      rintro e w1 ⟨rfl, hb⟩
      obtain ⟨hB, hc0, hc1, hc2⟩ := keepL ⟨hB, hc0, hc1, hc2⟩ hb
      go_wp2_with fail
      go_region_held3 (fun w' => Below w.heap.size w w' ∧ w'.cell? ⟨wa.heap.size, 0, none⟩ = some (.int .i64 W) ∧ w'.cell? ⟨wa.heap.size, 1, none⟩ = some (.int .i64 D) ∧ w'.cell? ⟨wa.heap.size, 2, none⟩ = some (.int .i64 E)) (first | exact keepD ⟨hB, hc0, hc1, hc2⟩ | exact keepL (by assumption) hb)
        (first | (go_at_call 74; refine (class_c W D E a h _).mono ?_; rintro e w' ⟨rfl, hb⟩) | (go_at_call 77; refine (size_c W D E a h _).mono ?_; rintro e w' ⟨rfl, hb⟩))
      rename_i hH
      obtain ⟨hB, hc0, hc1, hc2⟩ := hH
      go_wp2_with fail
      refine (sign_c W D E a h hv _).mono ?_
      rintro e w1 ⟨rfl, hb⟩
      obtain ⟨hB, hc0, hc1, hc2⟩ := keepL ⟨hB, hc0, hc1, hc2⟩ hb
      go_wp2_with fail
      refine (join_c W D E _ (siz W a - 1) h (by simp) (by omega) (by have := hz2.out; omega) _).mono ?_
      rintro e w1 ⟨rfl, hb⟩
      obtain ⟨hB, hc0, hc1, hc2⟩ := keepL ⟨hB, hc0, hc1, hc2⟩ hb
      go_wp2
      go_ret2
      exact ⟨by rw [hN.out]; rfl, hB⟩

set_option maxHeartbeats 2000000 in
theorem Next_c2 (k W D E a : Int) (up : Bool) (hk : KK k W D E) (hv : okB W a = true) (c4 : ¬ cls D (siz W a) = 4) (c0 : ¬ cls D (siz W a) = 0) (cs : ¬ sgn W a ≠ side up) (c3 : cls D (siz W a) = 3) (w : World) :
    Calls Tryd.prog 46 #[.int .i64 k, .int .i64 a, .bool up] w fun e w' => e = .returned (.tuple #[.int .i64 (nextF W D a up), .int .i64 0]) ∧ Below w.heap.size w w' := by
    have h := hk.kl
    have Hk := Lib.hid hk; clear hk
    have e4 : (cls D (siz W a) == 4) = false := by simp [c4]
    have e0 : (cls D (siz W a) == 0) = false := by simp [c0]
    have e3 : (cls D (siz W a) == 3) = true := by simp [c3]
    have es : (sgn W a != side up) = false := by simpa using cs
    have hN := Lib.hid (show nextF W D a up = a by simp [nextF, cs, c3])
    clear c0 c4 cs c3
    simp only [side] at es
    cases up <;> simp only [if_true, if_false, Bool.false_eq_true] at es
    all_goals
      go_enter Tryd.func46, Tryd.ntmps46
      go_wp2_with fail
      refine (layoutOf_c k W D E Hk.out _).mono ?_
      rintro e wa ⟨rfl, hb⟩
      obtain ⟨hB, hc0, hc1, hc2⟩ := keepA (a := .int .i64 W) (b := .int .i64 D) (c := .int .i64 E) (t := 48) hb
      go_wp2_with fail
      refine (holds_c W D E a h _).mono ?_
      rintro e w1 ⟨rfl, hb⟩
      obtain ⟨hB, hc0, hc1, hc2⟩ := keepL ⟨hB, hc0, hc1, hc2⟩ hb
      go_wp2_with fail
      go_region_held3 (fun w' => Below w.heap.size w w' ∧ w'.cell? ⟨wa.heap.size, 0, none⟩ = some (.int .i64 W) ∧ w'.cell? ⟨wa.heap.size, 1, none⟩ = some (.int .i64 D) ∧ w'.cell? ⟨wa.heap.size, 2, none⟩ = some (.int .i64 E)) (first | exact keepD ⟨hB, hc0, hc1, hc2⟩ | exact keepL (by assumption) hb)
        (first | (go_at_call 74; refine (class_c W D E a h _).mono ?_; rintro e w' ⟨rfl, hb⟩) | (go_at_call 77; refine (size_c W D E a h _).mono ?_; rintro e w' ⟨rfl, hb⟩))
      rename_i hH
      obtain ⟨hB, hc0, hc1, hc2⟩ := hH
      go_wp2_with fail
      refine (sign_c W D E a h hv _).mono ?_
      rintro e w1 ⟨rfl, hb⟩
      obtain ⟨hB, hc0, hc1, hc2⟩ := keepL ⟨hB, hc0, hc1, hc2⟩ hb
      go_wp2
      go_ret2
      exact ⟨by rw [hN.out]; rfl, hB⟩

set_option maxHeartbeats 2000000 in
theorem Next_c3 (k W D E a : Int) (up : Bool) (hk : KK k W D E) (hv : okB W a = true) (c4 : ¬ cls D (siz W a) = 4) (c0 : ¬ cls D (siz W a) = 0) (cs : ¬ sgn W a ≠ side up) (c3 : ¬ cls D (siz W a) = 3) (w : World) :
    Calls Tryd.prog 46 #[.int .i64 k, .int .i64 a, .bool up] w fun e w' => e = .returned (.tuple #[.int .i64 (nextF W D a up), .int .i64 0]) ∧ Below w.heap.size w w' := by
    have h := hk.kl
    have Hk := Lib.hid hk; clear hk
    have e4 : (cls D (siz W a) == 4) = false := by simp [c4]
    have e0 : (cls D (siz W a) == 0) = false := by simp [c0]
    have e3 : (cls D (siz W a) == 3) = false := by simp [c3]
    have hz1 := cls_pos (siz_b W D E a h).1 c0
    have hz2 := cls_lt h c4
    have hwz := wrap_up h (by omega) hz2
    have es : (sgn W a != side up) = false := by simpa using cs
    have hN := Lib.hid (show nextF W D a up = jn W (side up) (siz W a + 1) by simp [nextF, c0, c4, cs, c3])
    clear c0 c4 cs c3
    simp only [side] at es
    cases up <;> simp only [if_true, if_false, Bool.false_eq_true] at es
    all_goals
      go_enter Tryd.func46, Tryd.ntmps46
      go_wp2_with fail
      refine (layoutOf_c k W D E Hk.out _).mono ?_
      rintro e wa ⟨rfl, hb⟩
      obtain ⟨hB, hc0, hc1, hc2⟩ := keepA (a := .int .i64 W) (b := .int .i64 D) (c := .int .i64 E) (t := 48) hb
      go_wp2_with fail
      refine (holds_c W D E a h _).mono ?_
      rintro e w1 ⟨rfl, hb⟩
      obtain ⟨hB, hc0, hc1, hc2⟩ := keepL ⟨hB, hc0, hc1, hc2⟩ hb
      go_wp2_with fail
      go_region_held3 (fun w' => Below w.heap.size w w' ∧ w'.cell? ⟨wa.heap.size, 0, none⟩ = some (.int .i64 W) ∧ w'.cell? ⟨wa.heap.size, 1, none⟩ = some (.int .i64 D) ∧ w'.cell? ⟨wa.heap.size, 2, none⟩ = some (.int .i64 E)) (first | exact keepD ⟨hB, hc0, hc1, hc2⟩ | exact keepL (by assumption) hb)
        (first | (go_at_call 74; refine (class_c W D E a h _).mono ?_; rintro e w' ⟨rfl, hb⟩) | (go_at_call 77; refine (size_c W D E a h _).mono ?_; rintro e w' ⟨rfl, hb⟩))
      rename_i hH
      obtain ⟨hB, hc0, hc1, hc2⟩ := hH
      go_wp2_with fail
      refine (sign_c W D E a h hv _).mono ?_
      rintro e w1 ⟨rfl, hb⟩
      obtain ⟨hB, hc0, hc1, hc2⟩ := keepL ⟨hB, hc0, hc1, hc2⟩ hb
      go_wp2_with fail
      refine (join_c W D E _ (siz W a + 1) h (by simp) (by omega) (by have := hf_b h; omega) _).mono ?_
      rintro e w1 ⟨rfl, hb⟩
      obtain ⟨hB, hc0, hc1, hc2⟩ := keepL ⟨hB, hc0, hc1, hc2⟩ hb
      go_wp2
      go_ret2
      exact ⟨by rw [hN.out]; rfl, hB⟩

theorem Next_c (k W D E a : Int) (up : Bool) (hk : KK k W D E) (hv : okB W a = true) (w : World) :
    Calls Tryd.prog 46 #[.int .i64 k, .int .i64 a, .bool up] w fun e w' => e = .returned (.tuple #[.int .i64 (nextF W D a up), .int .i64 0]) ∧ Below w.heap.size w w' := by
  by_cases c4 : cls D (siz W a) = 4
  · exact Next_c4 k W D E a up hk hv c4 w
  by_cases c0 : cls D (siz W a) = 0
  · exact Next_c0 k W D E a up hk hv c0 w
  by_cases cs : sgn W a ≠ side up
  · exact Next_c1 k W D E a up hk hv c4 c0 cs w
  by_cases c3 : cls D (siz W a) = 3
  · exact Next_c2 k W D E a up hk hv c4 c0 cs c3 w
  · exact Next_c3 k W D E a up hk hv c4 c0 cs c3 w
end Go.Proofs.YtfdenbgmogojeaaDoor
