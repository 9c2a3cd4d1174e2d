/- Contracts of layout's div: the rounded quotient of two floats that are taken apart, and its flags; premises as written. -/
import Derived.Test.YtfdenbgmogojeaaDoorFloQu
import Derived.Test.YtfdenbgmogojeaaDoorFloMu
namespace Go.Proofs.YtfdenbgmogojeaaDoor
open Go.RowKit Go.Lib

/-- The quotient of two floats that are taken apart. -/
def numDiv (W D mode cx sx mx ex cy sy my ey : Int) : Int × Int :=
  if cx = cy ∧ (cx = 0 ∨ cx = 3) then (jn W 0 (qz D), 1)
  else if cx = 3 then (jn W (sgX sx sy) (endl D), 0)
  else if cx = 0 ∨ cy = 3 then (jn W (sgX sx sy) 0, 0)
  else if cy = 0 then (jn W (sgX sx sy) (endl D), 2)
  else roundF W D mode (sgX sx sy) (quN mx.toNat my.toNat) (quE mx.toNat ex my.toNat ey) (decide (quR mx.toNat my.toNat ≠ 0))

set_option maxHeartbeats 8000000 in
theorem div_sp (W D E mode cx sx mx ex cy sy my ey : Int) (h : KL W D E) (hsx : Sgn sx) (hsy : Sgn sy) (hcx : cx = 0 ∨ cx = 1 ∨ cx = 2 ∨ cx = 3) (hcy : cy = 0 ∨ cy = 1 ∨ cy = 2 ∨ cy = 3) (hsp : cx = 0 ∨ cx = 3 ∨ cy = 0 ∨ cy = 3) (r1 r2 : Int)
    (hr : (r1, r2) = if cx = cy ∧ (cx = 0 ∨ cx = 3) then (jn W 0 (qz D), 1) else if cx = 3 then (jn W (sgX sx sy) (endl D), 0) else if cx = 0 ∨ cy = 3 then (jn W (sgX sx sy) 0, 0) else (jn W (sgX sx sy) (endl D), 2)) (w : World) :
    Calls Tryd.prog 65 #[lay W D E, .int .i64 mode, num cx sx mx ex, num cy sy my ey] w fun e w' => e = .returned (.tuple #[.int .i64 r1, .int .i64 r2]) ∧ Below w.heap.size w w' := by
  have hxo := sgX_x sx sy hsx hsy
  have hS := sgX_s sx sy
  generalize sgX sx sy = sg at *
  have Hs := Lib.hid hS; clear hS
  have hh := Lib.hid (show (0 : Int) ≤ 0 ∧ (0 : Int) < Go.Proofs.YtfdenbgmogojeaaDoor.hf W from ⟨by omega, by have := (one_b h).2; omega⟩)
  clear hsx hsy
  rcases hcx with rfl | rfl | rfl | rfl <;> rcases hcy with rfl | rfl | rfl | rfl <;> first | (exact absurd hsp (by decide)) | skip
  all_goals
    clear hsp
    simp at hr
    obtain ⟨rfl, rfl⟩ := hr
    go_enter Tryd.func65, Tryd.ntmps65
    go_wp2_with (first | (go_at_call 89; refine (quiet_c W D E h _).mono ?_; rintro e w1 ⟨rfl, hb⟩) | (go_at_call 90; refine (infinite_c W D E _ h Hs.out _).mono ?_; rintro e w1 ⟨rfl, hb⟩) | (go_at_call 80; refine (join_c W D E _ 0 h Hs.out hh.out.1 hh.out.2 _).mono ?_; rintro e w1 ⟨rfl, hb⟩))
    go_ret2
    exact ⟨rfl, bt (by go_grown) hb⟩

theorem qu_len (X Y : Nat) (x0 : 0 < X) (x1 : X < 18014398509481984) (y0 : 0 < Y) (y1 : Y < 18014398509481984) : quN X Y < 18446744073709551616 ∧ 4611686018427387904 ≤ quN X Y := by
  obtain ⟨_, _, q3, q4, q5, q6⟩ := qu_b X Y x0 x1 y0 y1
  have hx := bl_pos X (by omega)
  have hx54 : bl X ≤ 54 := bl_mono_le _ 54 (by omega)
  have p3 : 2 ^ (bl X - 1) * 2 ^ (63 - bl X) ≤ quU X := Nat.mul_le_mul_right _ (bl_ge X (by omega))
  rw [← Nat.pow_add, show bl X - 1 + (63 - bl X) = 62 by omega] at p3
  unfold quN
  constructor
  · rw [Nat.div_lt_iff_lt_mul (by omega)]; omega
  · rw [Nat.le_div_iff_mul_le (by omega)]; omega

set_option maxHeartbeats 8000000 in
theorem div_fin (W D E mode cx sx ex cy sy ey : Int) (X Y : Nat) (h : KL W D E) (hm : Mode mode) (hsx : Sgn sx) (hsy : Sgn sy) (h1 : (cx == 0) = false) (h2 : (cx == 3) = false) (h3 : (cy == 0) = false) (h4 : (cy == 3) = false)
    (x0 : 0 < X) (x1 : (X : Int) ≤ 18014398509481983) (y0 : 0 < Y) (y1 : (Y : Int) ≤ 18014398509481983) (ex0 : -1100 ≤ ex) (ex1 : ex ≤ 1000) (ey0 : -1100 ≤ ey) (ey1 : ey ≤ 1000) (w : World) :
    Calls Tryd.prog 65 #[lay W D E, .int .i64 mode, num cx sx X ex, num cy sy Y ey] w fun e w' => e = .returned (.tuple #[.int .i64 (roundF W D mode (sgX sx sy) (quN X Y) (quE X ex Y ey) (decide (quR X Y ≠ 0))).1, .int .i64 (roundF W D mode (sgX sx sy) (quN X Y) (quE X ex Y ey) (decide (quR X Y ≠ 0))).2]) ∧ Below w.heap.size w w' := by
  have hxo := sgX_x sx sy hsx hsy
  have hS := sgX_s sx sy
  generalize sgX sx sy = sg at *
  have Hs := Lib.hid hS; clear hS
  clear hsx hsy
  obtain ⟨q1, q2⟩ := qu_len X Y x0 (by omega) y0 (by omega)
  have hE : -2400 ≤ quE X ex Y ey ∧ quE X ex Y ey ≤ 2400 := by
    have a := bl_mono_le X 54 (by omega)
    have b := bl_mono_le Y 54 (by omega)
    unfold quE; omega
  have hQ := Lib.hid (fun w' => quotient_c cx sx ex cy sy ey X Y x0 x1 y0 y1 ex0 ex1 ey0 ey1 w')
  generalize quN X Y = N at *
  generalize quE X ex Y ey = EE at *
  generalize decide (quR X Y ≠ 0) = mo at *
  have hb := bl_mono_le N 64 (by omega)
  have hh : 11 ≤ D ∧ D ≤ 53 ∧ -1074 ≤ low D := by rcases h with ⟨rfl, rfl, rfl⟩ | ⟨rfl, rfl, rfl⟩ | ⟨rfl, rfl, rfl⟩ <;> decide
  have hnn : nn 0 (N : Int) = N := by unfold nn; omega
  have hR := Lib.hid (round_c W D E mode sg 0 (N : Int) EE mo h hm Hs.out ⟨by omega, by omega⟩ ⟨by omega, by omega⟩ (by rw [hnn]; omega) (by omega) (by rw [hnn]; omega))
  rw [hnn] at hR
  clear hb hh hnn q1 q2 x0 y0 hE
  cases hcc : (cx == cy)
  all_goals
    go_enter Tryd.func65, Tryd.ntmps65
    go_wp2_with fail
    refine (hQ.out _).mono ?_
    rintro e w1 ⟨rfl, hb⟩
    obtain ⟨hL, hX, hY, hB, hlt⟩ := box3 (xs := [_, _, _]) (ys := [_, _, _, _]) (zs := [_, _, _]) hb
    clear hb
    obtain ⟨l0, l1, l2⟩ := hL.c3
    have hlt0 : w.heap.size < w1.heap.size := by omega
    have hlt1 : w.heap.size + 1 < w1.heap.size := by omega
    have hB1 := hB.alloc hB.size (.cells #[.int .i64 sg, .int .u64 0, .int .u64 (N : Int), .int .i64 EE, .bool mo] 77)
    go_wp2_with fail
    refine (hR.out _).mono ?_
    rintro e w2 ⟨rfl, hb⟩
    go_wp2
    go_ret2
    exact ⟨rfl, bt hB1 hb⟩
end Go.Proofs.YtfdenbgmogojeaaDoor
