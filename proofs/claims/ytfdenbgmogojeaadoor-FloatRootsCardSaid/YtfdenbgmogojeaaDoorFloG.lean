/- Contract of package float's round: the float that an exact value rounds to, and its flags; premises: the value is not 0 and its exponent is in the range that round's remark names. -/
import Derived.Test.YtfdenbgmogojeaaDoorFloF
namespace Go.Proofs.YtfdenbgmogojeaaDoor
open Go.RowKit

theorem keep8 {w wp w' : World} {n m : Nat} {a b c d e f g h : Value} (H : Below w.heap.size w wp ∧ wp.cell? ⟨n, 0, none⟩ = some a ∧ wp.cell? ⟨n, 1, none⟩ = some b ∧ wp.cell? ⟨n, 2, none⟩ = some c ∧ wp.cell? ⟨m, 0, none⟩ = some d ∧ wp.cell? ⟨m, 1, none⟩ = some e ∧ wp.cell? ⟨m, 2, none⟩ = some f ∧ wp.cell? ⟨m, 3, none⟩ = some g ∧ wp.cell? ⟨m, 4, none⟩ = some h) (hb : Below wp.heap.size wp w') :
    Below w.heap.size w w' ∧ w'.cell? ⟨n, 0, none⟩ = some a ∧ w'.cell? ⟨n, 1, none⟩ = some b ∧ w'.cell? ⟨n, 2, none⟩ = some c ∧ w'.cell? ⟨m, 0, none⟩ = some d ∧ w'.cell? ⟨m, 1, none⟩ = some e ∧ w'.cell? ⟨m, 2, none⟩ = some f ∧ w'.cell? ⟨m, 3, none⟩ = some g ∧ w'.cell? ⟨m, 4, none⟩ = some h := by
  obtain ⟨h0, h1, h2, h3, h4, h5, h6, h7, h8⟩ := H
  exact ⟨bt h0 hb, ck hb h1, ck hb h2, ck hb h3, ck hb h4, ck hb h5, ck hb h6, ck hb h7, ck hb h8⟩
theorem keep8d {w wp : World} {n m : Nat} {a b c d e f g h : Value} (H : Below w.heap.size w wp ∧ wp.cell? ⟨n, 0, none⟩ = some a ∧ wp.cell? ⟨n, 1, none⟩ = some b ∧ wp.cell? ⟨n, 2, none⟩ = some c ∧ wp.cell? ⟨m, 0, none⟩ = some d ∧ wp.cell? ⟨m, 1, none⟩ = some e ∧ wp.cell? ⟨m, 2, none⟩ = some f ∧ wp.cell? ⟨m, 3, none⟩ = some g ∧ wp.cell? ⟨m, 4, none⟩ = some h) :
    Below w.heap.size w wp.drew ∧ wp.drew.cell? ⟨n, 0, none⟩ = some a ∧ wp.drew.cell? ⟨n, 1, none⟩ = some b ∧ wp.drew.cell? ⟨n, 2, none⟩ = some c ∧ wp.drew.cell? ⟨m, 0, none⟩ = some d ∧ wp.drew.cell? ⟨m, 1, none⟩ = some e ∧ wp.drew.cell? ⟨m, 2, none⟩ = some f ∧ wp.drew.cell? ⟨m, 3, none⟩ = some g ∧ wp.drew.cell? ⟨m, 4, none⟩ = some h :=
  ⟨H.1.drew, H.2⟩
theorem keep8s {w : World} {a b c d e f g h : Value} {t u : TypeId} :
    let wp := (w.alloc (.cells #[a, b, c] t)).alloc (.cells #[d, e, f, g, h] u)
    Below w.heap.size w wp ∧ wp.cell? ⟨w.heap.size, 0, none⟩ = some a ∧ wp.cell? ⟨w.heap.size, 1, none⟩ = some b ∧ wp.cell? ⟨w.heap.size, 2, none⟩ = some c ∧ wp.cell? ⟨w.heap.size + 1, 0, none⟩ = some d ∧ wp.cell? ⟨w.heap.size + 1, 1, none⟩ = some e ∧ wp.cell? ⟨w.heap.size + 1, 2, none⟩ = some f ∧ wp.cell? ⟨w.heap.size + 1, 3, none⟩ = some g ∧ wp.cell? ⟨w.heap.size + 1, 4, none⟩ = some h := by
  refine ⟨by go_grown, ?_, ?_, ?_, ?_, ?_, ?_, ?_, ?_⟩ <;> go_cell


set_option maxHeartbeats 4000000 in
theorem round_core (W D E mode s hi lo e : Int) (more : Bool) (h : KL W D E) (hm : Mode mode) (hs : Sgn s) (a : U64 hi) (b : U64 lo) (hn : nn hi lo ≠ 0)
    (e0 : -100000 ≤ e) (e1 : e + (bl (nn hi lo) : Int) - D - low D ≤ 4000) (r S T O : Bool) (hr : (restF D (nn hi lo) e more != 0) = r) (hS : stepsF mode s (keptF D (nn hi lo) e) (restF D (nn hi lo) e more) = S)
    (hT : decide (e + (bl (nn hi lo) : Int) - D < low D) = T) (hO : decide (endl D ≤ sizeF D mode s (nn hi lo) e more) = O) (w : World) :
    Calls Tryd.prog 81 #[lay W D E, .int .i64 mode, exa s hi lo e more] w fun e' w' => e' = .returned (.tuple #[.int .i64 (roundF W D mode s (nn hi lo) e more).1, .int .i64 (roundF W D mode s (nn hi lo) e more).2]) ∧ Below w.heap.size w w' := by
  obtain ⟨⟨x1, x2⟩, x3, ⟨x4, x5⟩, ⟨x6, x7⟩, ⟨x8, x9⟩, ⟨x10, x11⟩, ⟨x12, x13⟩⟩ := round_nums W D E h mode s hi lo e more a b hn e0 e1
  have hb1 : (bl (nn hi lo) : Int) ≤ 128 := by have := bl_mono_le _ 128 (nn_lt hi lo a b); omega
  have hb0 : (0 : Int) ≤ (bl (nn hi lo) : Int) := by omega
  have hD : 11 ≤ D ∧ D ≤ 53 := (hid_pow W D E h).2.2
  obtain ⟨d0, d1⟩ := hD
  have v1 : IntKind.i64.wrap (e + (bl (nn hi lo) : Int)) = e + (bl (nn hi lo) : Int) := IntWalk.i64_in _ (by omega)
  have v2 : IntKind.i64.wrap (e + (bl (nn hi lo) : Int) - D) = e + (bl (nn hi lo) : Int) - D := IntWalk.i64_in _ (by omega)
  have hcut := Lib.hid (round_cut W D E h hi lo (lastF D (nn hi lo) e - e) a b hn (by unfold lastF; omega)).1
  have hlast : max (e + (bl (nn hi lo) : Int) - D) (low D) = lastF D (nn hi lo) e := rfl
  have hrr := Lib.hid (show restF D (nn hi lo) e more = 0 ∨ restF D (nn hi lo) e more = 1 ∨ restF D (nn hi lo) e more = 2 ∨ restF D (nn hi lo) e more = 3 from cutR_r (nn hi lo) more (lastF D (nn hi lo) e - e))
  have hku := Lib.hid (show U64 (keptF D (nn hi lo) e) from ⟨by omega, by omega⟩)
  go_enter Tryd.func81, Tryd.ntmps81
  go_wp2_with fail
  go_region_held3 (fun w' => Below w.heap.size w w' ∧ w'.cell? ⟨w.heap.size, 0, none⟩ = some (.int .i64 W) ∧ w'.cell? ⟨w.heap.size, 1, none⟩ = some (.int .i64 D) ∧ w'.cell? ⟨w.heap.size, 2, none⟩ = some (.int .i64 E) ∧ w'.cell? ⟨w.heap.size + 1, 0, none⟩ = some (.int .i64 s) ∧ w'.cell? ⟨w.heap.size + 1, 1, none⟩ = some (.int .u64 hi) ∧ w'.cell? ⟨w.heap.size + 1, 2, none⟩ = some (.int .u64 lo) ∧ w'.cell? ⟨w.heap.size + 1, 3, none⟩ = some (.int .i64 e) ∧ w'.cell? ⟨w.heap.size + 1, 4, none⟩ = some (.bool more))
    (first | exact keep8d keep8s | exact keep8 (by assumption) hb)
    (first | (go_at_call 112; refine (length_c s hi lo e more a b _).mono ?_; rintro e w' ⟨rfl, hb⟩))
  rename_i hH
  obtain ⟨hB, hc0, hc1, hc2, hc3, hc4, hc5, hc6, hc7⟩ := hH
  clear v1 v2
  go_wp2_with fail
  refine (lowest_c W D E h _).mono ?_
  rintro e w1 ⟨rfl, hb⟩
  obtain ⟨hB, hc0, hc1, hc2, hc3, hc4, hc5, hc6, hc7⟩ := keep8 ⟨hB, hc0, hc1, hc2, hc3, hc4, hc5, hc6, hc7⟩ hb
  go_wp2_with fail
  refine (lowest_c W D E h _).mono ?_
  rintro e w1 ⟨rfl, hb⟩
  obtain ⟨hB, hc0, hc1, hc2, hc3, hc4, hc5, hc6, hc7⟩ := keep8 ⟨hB, hc0, hc1, hc2, hc3, hc4, hc5, hc6, hc7⟩ hb
  go_wp2_with fail
  refine (cut_c s hi lo _ (lastF D (nn hi lo) _ - _) more a b (by omega) hcut.out _).mono ?_
  rintro e w1 ⟨he, hb⟩
  obtain ⟨hB, hc0, hc1, hc2, hc3, hc4, hc5, hc6, hc7⟩ := keep8 ⟨hB, hc0, hc1, hc2, hc3, hc4, hc5, hc6, hc7⟩ hb
  rw [show cutK (nn hi lo) (lastF D (nn hi lo) _ - _) = keptF D (nn hi lo) _ from rfl, show cutR (nn hi lo) more (lastF D (nn hi lo) _ - _) = restF D (nn hi lo) _ more from rfl] at he
  subst he
  go_wp2_with fail
  refine (steps_c mode s _ _ hm hrr.out hku.out _).mono ?_
  rw [hS]
  rintro e w1 ⟨rfl, rfl⟩
  have y1 : IntKind.i64.wrap (lastF D (nn hi lo) e - low D) = lastF D (nn hi lo) e - low D := IntWalk.i64_in _ (by omega)
  have y2 : IntKind.u64.wrap (lastF D (nn hi lo) e - low D) = lastF D (nn hi lo) e - low D := IntWalk.u64_in _ (by omega)
  have y3 : IntKind.i64.wrap (D - 1) = D - 1 := IntWalk.i64_in _ (by omega)
  have y4 := Lib.hid (size_w W D E h mode s e (nn hi lo) more x8 x9 x6 x7 x10 x11)
  have hsz := Lib.hid (show 0 ≤ sizeF D mode s (nn hi lo) e more by unfold sizeF; omega)
  have hov := Lib.hid (hf_b h).1
  have hfin := Lib.hid (round_fin W D mode s e (nn hi lo) more r T O hr hT hO)
  have hrs := Lib.hid (steps_r mode s (keptF D (nn hi lo) e) (restF D (nn hi lo) e more) r S hr hS)
  clear x1 x2 x3 x4 x5 x8 x9 hn e0 e1 hlast hb1 hb0
  cases S <;> cases r <;> cases T <;> cases O
  all_goals first | (exact absurd hrs.out (by decide)) | skip
  all_goals
    have y5 := y4.out
    simp only [hS, if_true, if_false, Bool.false_eq_true] at y5
    have hOO := hO
    have HO := Lib.hid hO; clear hO
    have hfi := hfin.out
    simp only [if_true, if_false, Bool.false_eq_true] at hfi
    have HF := Lib.hid hfi; clear hfi hfin
    go_wp2_with fail
    go_region_held3 (fun w' => Below w.heap.size w w' ∧ w'.cell? ⟨w.heap.size, 0, none⟩ = some (.int .i64 W) ∧ w'.cell? ⟨w.heap.size, 1, none⟩ = some (.int .i64 D) ∧ w'.cell? ⟨w.heap.size, 2, none⟩ = some (.int .i64 E) ∧ w'.cell? ⟨w.heap.size + 1, 0, none⟩ = some (.int .i64 s) ∧ w'.cell? ⟨w.heap.size + 1, 1, none⟩ = some (.int .u64 hi) ∧ w'.cell? ⟨w.heap.size + 1, 2, none⟩ = some (.int .u64 lo) ∧ w'.cell? ⟨w.heap.size + 1, 3, none⟩ = some (.int .i64 e) ∧ w'.cell? ⟨w.heap.size + 1, 4, none⟩ = some (.bool more))
      (first | exact keep8d ⟨hB, hc0, hc1, hc2, hc3, hc4, hc5, hc6, hc7⟩ | exact keep8 (by assumption) hb)
      (first | (go_at_call 108; refine (lowest_c W D E h _).mono ?_; rintro e w' ⟨rfl, hb⟩))
    rename_i hH
    obtain ⟨hB, hc0, hc1, hc2, hc3, hc4, hc5, hc6, hc7⟩ := hH
    go_wp2_with fail
    refine (endless_c W D E h _).mono ?_
    rintro e w1 ⟨rfl, hb⟩
    obtain ⟨hB, hc0, hc1, hc2, hc3, hc4, hc5, hc6, hc7⟩ := keep8 ⟨hB, hc0, hc1, hc2, hc3, hc4, hc5, hc6, hc7⟩ hb
    go_wp2_with fail
    first
      | (refine (overflow_c W D E mode s h hm hs _).mono ?_
         rintro e w1 ⟨rfl, hb⟩
         go_wp2
         go_ret2
         exact ⟨by rw [HF.out]; rfl, bt hB hb⟩)
      | (refine (join_c W D E s _ h hs hsz.out (by have h1 := of_decide_eq_false HO.out; have h2 := hov.out; omega) _).mono ?_
         rintro e w1 ⟨rfl, hb⟩
         go_wp2
         go_ret2
         exact ⟨by rw [HF.out]; rfl, bt hB hb⟩)

theorem round_c (W D E mode s hi lo e : Int) (more : Bool) (h : KL W D E) (hm : Mode mode) (hs : Sgn s) (a : U64 hi) (b : U64 lo) (hn : nn hi lo ≠ 0)
    (e0 : -100000 ≤ e) (e1 : e + (bl (nn hi lo) : Int) - D - low D ≤ 4000) (w : World) :
    Calls Tryd.prog 81 #[lay W D E, .int .i64 mode, exa s hi lo e more] w fun e' w' => e' = .returned (.tuple #[.int .i64 (roundF W D mode s (nn hi lo) e more).1, .int .i64 (roundF W D mode s (nn hi lo) e more).2]) ∧ Below w.heap.size w w' :=
  round_core W D E mode s hi lo e more h hm hs a b hn e0 e1 _ _ _ _ rfl rfl rfl rfl w
end Go.Proofs.YtfdenbgmogojeaaDoor
