/- Contracts of quadratref01's Parts where no number has to be reckoned: of what is none, an infinite one, no number and a zero. -/
import Derived.Test.YtfdenbgmogojeaaDoorRefG
import Derived.Test.YtfdenbgmogojeaaDoorFloPt
namespace Go.Proofs.YtfdenbgmogojeaaDoor
open Go.RowKit

theorem rParts_no (k a : Int) (h2 : (k == 2) = false) (h4 : (k == 4) = false) (h8 : (k == 8) = false) (w : World) :
    Calls Tryd.prog 37 #[.int .i64 k, .int .i64 a] w fun e w' => e = .returned (.tuple #[.int .i64 0, .int .i64 0, .int .i64 0, .int .i64 2]) ∧ Below w.heap.size w w' := by
  have H := Lib.hid (fun w' => rValid_no k a h2 h4 h8 w')
  clear h2 h4 h8
  go_enter Tryd.func37, Tryd.ntmps37
  go_wp2_with fail
  refine (H.out _).mono ?_
  rintro e w0 ⟨rfl, rfl⟩
  go_wp2
  ((try simp only [Exit.inBlock, Exit.then]); refine bodyPost_ret (results_tmp4 rfl _ _ _) rfl ?_)
  exact ⟨rfl, Below.refl _ _⟩

theorem rParts_out (k W D E a : Int) (hk : KK k W D E) (hv : okB W a = false) (w : World) :
    Calls Tryd.prog 37 #[.int .i64 k, .int .i64 a] w fun e w' => e = .returned (.tuple #[.int .i64 0, .int .i64 0, .int .i64 0, .int .i64 2]) ∧ Below w.heap.size w w' := by
  have H := Lib.hid (fun w' => rValid_c k W D E a hk w')
  rw [hv] at H
  clear hk hv
  go_enter Tryd.func37, Tryd.ntmps37
  go_wp2_with fail
  refine (H.out _).mono ?_
  rintro e w0 ⟨rfl, rfl⟩
  go_wp2
  ((try simp only [Exit.inBlock, Exit.then]); refine bodyPost_ret (results_tmp4 rfl _ _ _) rfl ?_)
  exact ⟨rfl, Below.refl _ _⟩

set_option maxHeartbeats 2000000 in
theorem rParts_far (k W D E a : Int) (hk : KK k W D E) (hv : okB W a = true) (hc : cls D (siz W a) = 3 ∨ cls D (siz W a) = 4) (w : World) :
    Calls Tryd.prog 37 #[.int .i64 k, .int .i64 a] w fun e w' => e = .returned (.tuple #[.int .i64 0, .int .i64 0, .int .i64 0, .int .i64 10]) ∧ Below w.heap.size w w' := by
  have H := Lib.hid (fun w' => rValid_c k W D E a hk w')
  rw [hv] at H
  have Ht := Lib.hid (fun w' => taken_c k W D E a hk hv w')
  have hwh : whS (cls D (siz W a)) = ⟨#[105, 110, 102, 105, 110, 105, 116, 101]⟩ ∨ whS (cls D (siz W a)) = ⟨#[110, 111, 110, 101]⟩ := by
    rcases hc with c | c
    · exact .inl (by rw [c]; rfl)
    · exact .inr (by rw [c]; rfl)
  clear hk hv hc
  rcases hwh with hwh | hwh
  all_goals
    go_enter Tryd.func37, Tryd.ntmps37
    go_wp2_with fail
    refine (H.out _).mono ?_
    rintro e w0 ⟨rfl, rfl⟩
    go_wp2_with fail
    refine (Ht.out _).mono ?_
    rintro e w1 ⟨v0, rfl, hown, hB⟩
    obtain ⟨ad, ln, cp, hv0⟩ := own_slice hown
    subst hv0
    clear hown
    go_wp2
    ((try simp only [Exit.inBlock, Exit.then]); refine bodyPost_ret (results_tmp4 rfl _ _ _) rfl ?_)
    exact ⟨rfl, hB.alloc hB.size _⟩

set_option maxHeartbeats 2000000 in
theorem rParts_zero (k W D E a : Int) (hk : KK k W D E) (hv : okB W a = true) (hc : cls D (siz W a) = 0) (w : World) :
    Calls Tryd.prog 37 #[.int .i64 k, .int .i64 a] w fun e w' => e = .returned (.tuple #[.int .i64 (sgn W a), .int .i64 0, .int .i64 0, .int .i64 0]) ∧ Below w.heap.size w w' := by
  have H := Lib.hid (fun w' => rValid_c k W D E a hk w')
  rw [hv] at H
  have Ht := Lib.hid (fun w' => taken_c k W D E a hk hv w')
  have hwh : whS (cls D (siz W a)) = ⟨#[122, 101, 114, 111]⟩ := by rw [hc]; rfl
  have hrs := Lib.hid (show rS W D a = sgn W a by unfold rS; rw [if_neg (by omega)])
  clear hk hv hc
  go_enter Tryd.func37, Tryd.ntmps37
  go_wp2_with fail
  refine (H.out _).mono ?_
  rintro e w0 ⟨rfl, rfl⟩
  go_wp2_with fail
  refine (Ht.out _).mono ?_
  rintro e w1 ⟨v0, rfl, hown, hB⟩
  obtain ⟨ad, ln, cp, hv0⟩ := own_slice hown
  subst hv0
  clear hown
  go_wp2
  ((try simp only [Exit.inBlock, Exit.then]); refine bodyPost_ret (results_tmp4 rfl _ _ _) rfl ?_)
  exact ⟨by rw [← hrs.out]; rfl, hB.alloc hB.size _⟩
end Go.Proofs.YtfdenbgmogojeaaDoor
