/- Contracts of the functions of package float that hold several calls in one statement: class, quiet, infinite, greatest, lowest; each for every input that its premises name. -/
import Derived.Test.YtfdenbgmogojeaaDoorRows
import Derived.WalkKit
import Derived.WalkSpells
import Derived.WalkLawsBesides
import Derived.Handy
import Derived.Lib.Hide
import Derived.Deep.RegionHeld3
import Derived.Test.YtfdenbgmogojeaaDoorFloA
import Derived.Test.YtfdenbgmogojeaaDoorFloP
namespace Go.Proofs.YtfdenbgmogojeaaDoor
open Go.RowKit

/-- What a layout's box holds, said of a later world. -/
theorem keepL {w wp w' : World} {n : Nat} {a b c : Value} (h : Below w.heap.size w wp ∧ wp.cell? ⟨n, 0, none⟩ = some a ∧ wp.cell? ⟨n, 1, none⟩ = some b ∧ wp.cell? ⟨n, 2, none⟩ = some c) (hb : Below wp.heap.size wp w') :
    Below w.heap.size w w' ∧ w'.cell? ⟨n, 0, none⟩ = some a ∧ w'.cell? ⟨n, 1, none⟩ = some b ∧ w'.cell? ⟨n, 2, none⟩ = some c := by
  obtain ⟨h0, h1, h2, h3⟩ := h
  have hn := World.block_lt_of_cell? wp _ h1
  refine ⟨h0.trans (hb.mono h0.size), ?_, ?_, ?_⟩
  · rw [hb.cell (p := ⟨n, 0, none⟩) hn]; exact h1
  · rw [hb.cell (p := ⟨n, 1, none⟩) hn]; exact h2
  · rw [hb.cell (p := ⟨n, 2, none⟩) hn]; exact h3
theorem keep0 {w : World} {a b c : Value} {t : TypeId} :
    let wp := (w.alloc (.cells #[a, b, c] t)).drew
    Below w.heap.size w wp ∧ wp.cell? ⟨w.heap.size, 0, none⟩ = some a ∧ wp.cell? ⟨w.heap.size, 1, none⟩ = some b ∧ wp.cell? ⟨w.heap.size, 2, none⟩ = some c := by
  refine ⟨((Below.refl _ _).alloc (Nat.le_refl _) _).drew, ?_, ?_, ?_⟩ <;> go_cell
/-- The quiet no number's size. -/
def qz (D : Int) : Int := endl D + hid D / 2
theorem qz_or (W D E : Int) (h : KL W D E) : bits .or .u64 (endl D) (hid D / 2) = qz D := by
  rcases h with ⟨rfl, rfl, rfl⟩ | ⟨rfl, rfl, rfl⟩ | ⟨rfl, rfl, rfl⟩
  · exact or_join_u64 10 31744 512 (by decide) (by decide) (by decide) (by decide)
  · exact or_join_u64 23 2139095040 4194304 (by decide) (by decide) (by decide) (by decide)
  · exact or_join_u64 52 9218868437227405312 2251799813685248 (by decide +kernel) (by decide) (by decide) (by decide)
theorem qz_b (W D E : Int) (h : KL W D E) : 0 ≤ qz D ∧ qz D < hf W := by
  rcases h with ⟨rfl, rfl, rfl⟩ | ⟨rfl, rfl, rfl⟩ | ⟨rfl, rfl, rfl⟩ <;> decide
theorem endl_b (W D E : Int) (h : KL W D E) : 0 ≤ endl D ∧ endl D < hf W := by
  rcases h with ⟨rfl, rfl, rfl⟩ | ⟨rfl, rfl, rfl⟩ | ⟨rfl, rfl, rfl⟩ <;> decide
set_option maxHeartbeats 400000 in
theorem quiet_c (W D E : Int) (h : KL W D E) (w : World) :
    Calls Tryd.prog 89 #[lay W D E] w fun e w' => e = .returned (.int .i64 (jn W 0 (qz D))) ∧ Below w.heap.size w w' := by
  have hq := qz_or W D E h
  go_enter Tryd.func89, Tryd.ntmps89
  go_wp2_with fail
  go_region_held3 (fun w' => Below w.heap.size w w' ∧ w'.cell? ⟨w.heap.size, 0, none⟩ = some (.int .i64 W) ∧ w'.cell? ⟨w.heap.size, 1, none⟩ = some (.int .i64 D) ∧ w'.cell? ⟨w.heap.size, 2, none⟩ = some (.int .i64 E)) (first | exact keep0 | exact keepL (by assumption) hb)
    (first | (go_at_call 110; refine (endless_c W D E h _).mono ?_; rintro e w' ⟨rfl, hb⟩) | (go_at_call 109; refine (hidden_c W D E h _).mono ?_; rintro e w' ⟨rfl, hb⟩) | (go_at_call 80; refine (join_c W D E 0 (qz D) h (.inl rfl) (qz_b W D E h).1 (qz_b W D E h).2 _).mono ?_; rintro e w' ⟨rfl, hb⟩))
  go_wp2
  go_ret
  rename_i hH
  exact ⟨rfl, hH.1⟩

theorem keepA {w w1 : World} {a b c : Value} {t : TypeId} (hb : Below w.heap.size w w1) :
    let wp := w1.alloc (.cells #[a, b, c] t)
    Below w.heap.size w wp ∧ wp.cell? ⟨w1.heap.size, 0, none⟩ = some a ∧ wp.cell? ⟨w1.heap.size, 1, none⟩ = some b ∧ wp.cell? ⟨w1.heap.size, 2, none⟩ = some c := by
  refine ⟨hb.alloc hb.size _, ?_, ?_, ?_⟩ <;> go_cell

def bia (E : Int) : Int := if E = 5 then 15 else if E = 8 then 127 else 1023
theorem low_eq (W D E : Int) (h : KL W D E) : 2 - bia E - D = low D := by
  rcases h with ⟨rfl, rfl, rfl⟩ | ⟨rfl, rfl, rfl⟩ | ⟨rfl, rfl, rfl⟩ <;> decide
theorem bia_b (W D E : Int) (h : KL W D E) : 15 ≤ bia E ∧ bia E ≤ 1023 ∧ 11 ≤ D ∧ D ≤ 53 := by
  rcases h with ⟨rfl, rfl, rfl⟩ | ⟨rfl, rfl, rfl⟩ | ⟨rfl, rfl, rfl⟩ <;> decide

set_option maxHeartbeats 400000 in
theorem bias_c (W D E : Int) (h : KL W D E) (w : World) :
    Calls Tryd.prog 120 #[lay W D E] w fun e w' => e = .returned (.int .i64 (bia E)) ∧ Below w.heap.size w w' := by
  rcases h with ⟨rfl, rfl, rfl⟩ | ⟨rfl, rfl, rfl⟩ | ⟨rfl, rfl, rfl⟩
  all_goals
    go_enter Tryd.func120, Tryd.ntmps120
    go_wp2
    go_ret
    exact ⟨rfl, by go_grown⟩

set_option maxHeartbeats 400000 in
theorem lowest_c (W D E : Int) (h : KL W D E) (w : World) :
    Calls Tryd.prog 108 #[lay W D E] w fun e w' => e = .returned (.int .i64 (low D)) ∧ Below w.heap.size w w' := by
  have hq := Lib.hid (low_eq W D E h)
  have ⟨b1, b2, b3, b4⟩ := bia_b W D E h
  have e1 : IntKind.i64.wrap (2 - bia E) = 2 - bia E := IntWalk.i64_in _ (by omega)
  have e2 : IntKind.i64.wrap (2 - bia E - D) = 2 - bia E - D := IntWalk.i64_in _ (by omega)
  go_enter Tryd.func108, Tryd.ntmps108
  go_wp2_with fail
  go_region_held3 (fun w' => Below w.heap.size w w' ∧ w'.cell? ⟨w.heap.size, 0, none⟩ = some (.int .i64 W) ∧ w'.cell? ⟨w.heap.size, 1, none⟩ = some (.int .i64 D) ∧ w'.cell? ⟨w.heap.size, 2, none⟩ = some (.int .i64 E)) (first | exact keep0 | exact keepL (by assumption) hb)
    (first | (go_at_call 120; refine (bias_c W D E h _).mono ?_; rintro e w' ⟨rfl, hb⟩))
  go_wp2
  go_ret
  rename_i hH
  exact ⟨ret_i hq.out, hH.1⟩

set_option maxHeartbeats 400000 in
theorem infinite_c (W D E s : Int) (h : KL W D E) (hs : s = 0 ∨ s = 1) (w : World) :
    Calls Tryd.prog 90 #[lay W D E, .int .i64 s] w fun e w' => e = .returned (.int .i64 (jn W s (endl D))) ∧ Below w.heap.size w w' := by
  have Hs := Lib.hid hs; clear hs
  go_enter Tryd.func90, Tryd.ntmps90
  go_wp2_with fail
  go_region_held3 (fun w' => Below w.heap.size w w' ∧ w'.cell? ⟨w.heap.size, 0, none⟩ = some (.int .i64 W) ∧ w'.cell? ⟨w.heap.size, 1, none⟩ = some (.int .i64 D) ∧ w'.cell? ⟨w.heap.size, 2, none⟩ = some (.int .i64 E)) (first | exact keep0 | exact keepL (by assumption) hb)
    (first | (go_at_call 110; refine (endless_c W D E h _).mono ?_; rintro e w' ⟨rfl, hb⟩) | (go_at_call 80; refine (join_c W D E s (endl D) h Hs.out (endl_b W D E h).1 (endl_b W D E h).2 _).mono ?_; rintro e w' ⟨rfl, hb⟩))
  go_wp2
  go_ret
  rename_i hH
  exact ⟨rfl, hH.1⟩

theorem endl1_b (W D E : Int) (h : KL W D E) : 0 ≤ endl D - 1 ∧ endl D - 1 < hf W := by
  rcases h with ⟨rfl, rfl, rfl⟩ | ⟨rfl, rfl, rfl⟩ | ⟨rfl, rfl, rfl⟩ <;> decide
theorem endl1_w (W D E : Int) (h : KL W D E) : IntKind.u64.wrap (endl D - 1) = endl D - 1 := by
  rcases h with ⟨rfl, rfl, rfl⟩ | ⟨rfl, rfl, rfl⟩ | ⟨rfl, rfl, rfl⟩ <;> decide

set_option maxHeartbeats 400000 in
theorem greatest_c (W D E s : Int) (h : KL W D E) (hs : s = 0 ∨ s = 1) (w : World) :
    Calls Tryd.prog 122 #[lay W D E, .int .i64 s] w fun e w' => e = .returned (.int .i64 (jn W s (endl D - 1))) ∧ Below w.heap.size w w' := by
  have Hs := Lib.hid hs; clear hs
  have hq := endl1_w W D E h
  go_enter Tryd.func122, Tryd.ntmps122
  go_wp2_with fail
  go_region_held3 (fun w' => Below w.heap.size w w' ∧ w'.cell? ⟨w.heap.size, 0, none⟩ = some (.int .i64 W) ∧ w'.cell? ⟨w.heap.size, 1, none⟩ = some (.int .i64 D) ∧ w'.cell? ⟨w.heap.size, 2, none⟩ = some (.int .i64 E)) (first | exact keep0 | exact keepL (by assumption) hb)
    (first | (go_at_call 110; refine (endless_c W D E h _).mono ?_; rintro e w' ⟨rfl, hb⟩) | (go_at_call 80; refine (join_c W D E s (endl D - 1) h Hs.out (endl1_b W D E h).1 (endl1_b W D E h).2 _).mono ?_; rintro e w' ⟨rfl, hb⟩))
  go_wp2
  go_ret
  rename_i hH
  exact ⟨rfl, hH.1⟩

theorem keepS {w : World} {a b c : Value} {t : TypeId} :
    let wp := (w.alloc (.cells #[a, b, c] t))
    Below w.heap.size w wp ∧ wp.cell? ⟨w.heap.size, 0, none⟩ = some a ∧ wp.cell? ⟨w.heap.size, 1, none⟩ = some b ∧ wp.cell? ⟨w.heap.size, 2, none⟩ = some c := keepA (Below.refl _ _)

theorem siz_b (W D E a : Int) (h : KL W D E) : 0 ≤ siz W a ∧ siz W a < hf W := by
  rcases h with ⟨rfl, rfl, rfl⟩ | ⟨rfl, rfl, rfl⟩ | ⟨rfl, rfl, rfl⟩ <;> (unfold siz hf; simp; omega)

theorem cls_0 {D z : Int} (h : (z == 0) = true) : 0 = cls D z := by
  simp at h; simp [cls, h]
theorem cls_1 {D z : Int} (h : (z == 0) = false) (h1 : z < hid D) : 1 = cls D z := by
  simp at h; simp [cls, h, h1]
theorem cls_2 {D z : Int} (h : (z == 0) = false) (h1 : hid D ≤ z) (h2 : z < endl D) : 2 = cls D z := by
  simp at h; unfold cls; rw [if_neg h, if_neg (by omega), if_pos h2]
theorem cls_3 {D z : Int} (h : (z == 0) = false) (h1 : hid D ≤ z) (_h2 : endl D ≤ z) (h3 : (z == endl D) = true) : 3 = cls D z := by
  simp at h h3; unfold cls; rw [if_neg h, if_neg (by omega), if_neg (by omega), if_pos h3]
theorem cls_4 {D z : Int} (h : (z == 0) = false) (h1 : hid D ≤ z) (h2 : endl D ≤ z) (h3 : (z == endl D) = false) : 4 = cls D z := by
  simp at h h3; unfold cls; rw [if_neg h, if_neg (by omega), if_neg (by omega), if_neg h3]

set_option maxHeartbeats 1000000 in
theorem class_c (W D E a : Int) (h : KL W D E) (w : World) :
    Calls Tryd.prog 74 #[lay W D E, .int .i64 a] w fun e w' => e = .returned (.int .i64 (cls D (siz W a))) ∧ Below w.heap.size w w' := by
  go_enter Tryd.func74, Tryd.ntmps74
  go_wp2_with fail
  refine (size_c W D E a h _).mono ?_
  rintro e w1 ⟨rfl, hb⟩
  obtain ⟨hB, hc0, hc1, hc2⟩ := keepL keepS hb
  clear hb
  go_wp2_with (first | (go_at_call 110; refine (endless_c W D E h _).mono ?_; rintro e w1 ⟨rfl, hb⟩; obtain ⟨hB, hc0, hc1, hc2⟩ := keepL ⟨hB, hc0, hc1, hc2⟩ hb; clear hb) | (go_at_call 109; refine (hidden_c W D E h _).mono ?_; rintro e w1 ⟨rfl, hb⟩; obtain ⟨hB, hc0, hc1, hc2⟩ := keepL ⟨hB, hc0, hc1, hc2⟩ hb; clear hb))
  all_goals
    go_ret
    refine ⟨ret_i ?_, by assumption⟩
    first | exact cls_0 ‹_› | exact cls_1 ‹_› ‹_› | exact cls_2 ‹_› ‹_› ‹_› | exact cls_3 ‹_› ‹_› ‹_› ‹_› | exact cls_4 ‹_› ‹_› ‹_› ‹_›
end Go.Proofs.YtfdenbgmogojeaaDoor
