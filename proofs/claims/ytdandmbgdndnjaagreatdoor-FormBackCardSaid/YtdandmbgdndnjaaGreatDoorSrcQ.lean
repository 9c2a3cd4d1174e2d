/- Contracts of printable and cutLabel. -/
import Derived.Test.YtdandmbgdndnjaaGreatDoorSrcP
import Derived.Test.YtdandmbgdndnjaaGreatDoorSrcM
import Derived.Test.YtdandmbgdndnjaaGreatDoorSrcG
import Derived.Shelf.Abstract
namespace Go.Proofs.YtdandmbgdndnjaaGreatDoor
open Go.RowKit

theorem badR_c (x : Nat) (w : World) (hx : x ≤ 1114111) : Calls Tryz.prog 47 #[.int .i32 (x : Int)] w fun e w' => e = .returned (.bool (badR x)) ∧ w = w' := by
  by_cases h1 : x < 32
  · have Hr := Lib.hid (show badR x = true by unfold badR; simp; omega)
    go_enter Tryz.func47, Tryz.ntmps47
    go_wp2
    go_ret
    exact ⟨by rw [Hr.out]; first | rfl | exact ret_b (by simp; omega), rfl⟩
  · by_cases h2 : 126 < x
    · have Hr := Lib.hid (show badR x = true by unfold badR; simp; omega)
      go_enter Tryz.func47, Tryz.ntmps47
      go_wp2
      go_ret
      exact ⟨by rw [Hr.out]; first | rfl | exact ret_b (by simp; omega), rfl⟩
    · have Hr := Lib.hid (show badR x = false by unfold badR; simp; omega)
      go_enter Tryz.func47, Tryz.ntmps47
      go_wp2
      go_ret
      exact ⟨by rw [Hr.out]; first | rfl | exact ret_b (by simp; omega), rfl⟩

theorem printable_c (s : ByteArray) (w : World) : Calls Tryz.prog 27 #[.string s] w fun e w' => e = .returned (.bool (prB s.data.toList)) ∧ Below w.heap.size w w' := by
  have H := Lib.hid (Tryz.strings_ContainsFunc_runes 47 #[] (enters_of Tryz.func47 (by kernel_rfl) rfl) badR s w (fun W x hx _ => (badR_c x W hx).mono fun e w' ⟨h1, h2⟩ => ⟨h1, 0, h2.symm⟩))
  have Hp := Lib.hid (show decide (0 ≤ Lib.idxFunc badR true s) = !(prB s.data.toList) from idx_prB s)
  generalize hq : prB s.data.toList = b
  rw [hq] at Hp
  have Hq := Lib.hid hq
  clear hq
  cases b
  all_goals
    go_enter Tryz.func27, Tryz.ntmps27
    go_wp2_with fail
    refine H.out.mono ?_
    rw [Hp.out]
    rintro e w1 ⟨rfl, hB⟩
    go_wp2
    go_ret
    exact ⟨rfl, hB⟩
end Go.Proofs.YtdandmbgdndnjaaGreatDoor
