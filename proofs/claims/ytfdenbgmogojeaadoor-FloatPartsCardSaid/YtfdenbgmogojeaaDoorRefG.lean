/- Contract of quadratref01's Class for every kind: the name of the class, as the code's; "" of what is none. -/
import Derived.Test.YtfdenbgmogojeaaDoorRefF
import Derived.Test.YtfdenbgmogojeaaDoorFloX
namespace Go.Proofs.YtfdenbgmogojeaaDoor
open Go.RowKit

theorem rClass_no (k a : Int) (h2 : (k == 2) = false) (h4 : (k == 4) = false) (h8 : (k == 8) = false) (w : World) :
    Calls Tryd.prog 43 #[.int .i64 k, .int .i64 a] w fun e w' => e = .returned (.string ⟨#[]⟩) ∧ Below w.heap.size w w' := by
  have H := Lib.hid (fun w' => rValid_no k a h2 h4 h8 w')
  clear h2 h4 h8
  go_enter Tryd.func43, Tryd.ntmps43
  go_wp2_with fail
  refine (H.out _).mono ?_
  rintro e w0 ⟨rfl, rfl⟩
  go_wp2
  go_ret
  exact ⟨rfl, Below.refl _ _⟩

theorem rClass_out (k W D E a : Int) (hk : KK k W D E) (hv : okB W a = false) (w : World) :
    Calls Tryd.prog 43 #[.int .i64 k, .int .i64 a] w fun e w' => e = .returned (.string ⟨#[]⟩) ∧ Below w.heap.size w w' := by
  have H := Lib.hid (fun w' => rValid_c k W D E a hk w')
  rw [hv] at H
  clear hk hv
  go_enter Tryd.func43, Tryd.ntmps43
  go_wp2_with fail
  refine (H.out _).mono ?_
  rintro e w0 ⟨rfl, rfl⟩
  go_wp2
  go_ret
  exact ⟨rfl, Below.refl _ _⟩

set_option maxHeartbeats 2000000 in
theorem rClass_far (k W D E a : Int) (hk : KK k W D E) (hv : okB W a = true) (i : Nat) (n : ByteArray) (hi : i = 0 ∨ i = 3 ∨ i = 4) (hc : cls D (siz W a) = (i : Int)) (hn : namesL[i]? = some n) (w : World) :
    Calls Tryd.prog 43 #[.int .i64 k, .int .i64 a] w fun e w' => e = .returned (.string n) ∧ Below w.heap.size w w' := by
  have H := Lib.hid (fun w' => rValid_c k W D E a hk w')
  rw [hv] at H
  have Ht := Lib.hid (fun w' => taken_c k W D E a hk hv w')
  rcases hi with rfl | rfl | rfl
  all_goals
    have hwh : whS (cls D (siz W a)) = n := by rw [hc]; exact (Option.some.inj (hn.symm)).symm ▸ rfl
    obtain rfl := Option.some.inj hn
    clear hk hv hc hn
    go_enter Tryd.func43, Tryd.ntmps43
    go_wp2_with fail
    refine (H.out _).mono ?_
    rintro e w0 ⟨rfl, rfl⟩
    go_wp2_with fail
    refine (Ht.out _).mono ?_
    rintro e w1 ⟨v0, rfl, hown, hB⟩
    obtain ⟨ad, ln, cp, hv0⟩ := own_slice hown
    subst hv0
    clear hown
    go_wp2
    go_ret
    exact ⟨rfl, hB.alloc hB.size _⟩

theorem clsA {D z : Int} (h : cls D z = 1) : z < hid D := by
  unfold cls at h; repeat' split at h
  all_goals omega
theorem clsB {D z : Int} (h : cls D z = 2) : hid D ≤ z := by
  unfold cls at h; repeat' split at h
  all_goals omega

set_option maxHeartbeats 4000000 in
theorem rClass_fin (k W D E a : Int) (hk : KK k W D E) (hv : okB W a = true) (i : Nat) (n : ByteArray) (hi : i = 1 ∨ i = 2) (hc : cls D (siz W a) = (i : Int)) (hn : namesL[i]? = some n) (w : World) :
    Calls Tryd.prog 43 #[.int .i64 k, .int .i64 a] w fun e w' => e = .returned (.string n) ∧ Below w.heap.size w w' := by
  have H := Lib.hid (fun w' => rValid_c k W D E a hk w')
  rw [hv] at H
  have Ht := Lib.hid (fun w' => taken_c k W D E a hk hv w')
  have Hs := Lib.hid (fun w' => rsize_c k W D E a hk w')
  obtain ⟨z0, z1⟩ := siz_63 W D E a hk.kl
  have hwh : whS (cls D (siz W a)) = ⟨#[102, 105, 110, 105, 116, 101]⟩ := by rw [hc]; rcases hi with rfl | rfl <;> rfl
  rcases hi with rfl | rfl
  · have hl := clsA hc
    obtain rfl := Option.some.inj hn
    clear hv hc hn
    rcases hk with ⟨rfl, rfl, rfl, rfl⟩ | ⟨rfl, rfl, rfl, rfl⟩ | ⟨rfl, rfl, rfl, rfl⟩
    all_goals
      simp only [hid, if_true, Int.reduceEq, if_false] at hl
      go_enter Tryd.func43, Tryd.ntmps43
      go_wp2_with fail
      refine (H.out _).mono ?_
      rintro e w0 ⟨rfl, rfl⟩
      go_wp2_with fail
      refine (Ht.out _).mono ?_
      rintro e w1 ⟨v0, rfl, hown, hB⟩
      obtain ⟨ad, ln, cp, hv0⟩ := own_slice hown
      subst hv0
      clear hown
      go_wp2_with (first | (go_at_call 79; refine (Hs.out _).mono ?_; rintro e w2 ⟨rfl, rfl⟩) | go_in)
      go_ret
      exact ⟨rfl, hB.alloc hB.size _⟩
  · have hl := clsB hc
    obtain rfl := Option.some.inj hn
    clear hv hc hn
    rcases hk with ⟨rfl, rfl, rfl, rfl⟩ | ⟨rfl, rfl, rfl, rfl⟩ | ⟨rfl, rfl, rfl, rfl⟩
    all_goals
      simp only [hid, if_true, Int.reduceEq, if_false] at hl
      go_enter Tryd.func43, Tryd.ntmps43
      go_wp2_with fail
      refine (H.out _).mono ?_
      rintro e w0 ⟨rfl, rfl⟩
      go_wp2_with fail
      refine (Ht.out _).mono ?_
      rintro e w1 ⟨v0, rfl, hown, hB⟩
      obtain ⟨ad, ln, cp, hv0⟩ := own_slice hown
      subst hv0
      clear hown
      go_wp2_with (first | (go_at_call 79; refine (Hs.out _).mono ?_; rintro e w2 ⟨rfl, rfl⟩) | go_in)
      go_ret
      exact ⟨rfl, hB.alloc hB.size _⟩
end Go.Proofs.YtfdenbgmogojeaaDoor
