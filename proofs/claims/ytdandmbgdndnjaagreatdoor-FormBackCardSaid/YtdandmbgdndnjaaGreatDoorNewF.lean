/- Contract of New: the statements of a text in the new form. -/
import Derived.Test.YtdandmbgdndnjaaGreatDoorNewE
import Derived.Deep.QuietTactic
import Derived.BigQuiet
namespace Go.Proofs.YtdandmbgdndnjaaGreatDoor
open Go.RowKit

theorem wt_split (sep : ByteArray) : ∀ (k : Nat) (s : ByteArray), wt (Lib.splitB sep 0 k s) ≤ s.size + 2 * (k + 1)
  | 0, s => by
    rw [Lib.splitB_zero]
    simp [wt]
  | k + 1, s => by
    unfold Lib.splitB
    split
    · simp [wt]; omega
    · have h := wt_split sep k (s.extract ((Lib.indexB s sep).toNat + sep.size) s.size)
      rw [ByteArray.size_extract] at h
      unfold wt at h ⊢
      rw [List.map_cons, List.sum_cons, ByteArray.size_extract]
      omega

/-- What New answers. -/
def newS (s : ByteArray) : Ro := nwEnd (nwAll (lns s) 0 (⟨[], nrW 132 (lns s) 0 0, 0, 0, [], 0⟩, 0))
def newR (s : ByteArray) : List St × Nat × Nat := if 8000 < s.size then ([], 0, 4) else resR (newS s).sts (newS s).l

set_option maxRecDepth 100000 in
set_option maxHeartbeats 2000000 in
theorem New_c (s : ByteArray) (m : Int) (w : World) (hm : w.cell? ⟨0, 0, none⟩ = some (.int .i64 m)) :
    Calls Tryz.prog 20 #[.string s] w (ResPost w.heap.size (newR s) w) := by
  by_cases h8 : 8000 < s.size
  · have e1 : newR s = ([], 0, 4) := by unfold newR; rw [if_pos h8]
    rw [e1]
    clear e1
    go_enter Tryz.func20, Tryz.ntmps20
    go_wp2
    go_ret3
    exact ⟨_, rfl, World.ownsRow_nil _ _ _ _, Below.refl _ _⟩
  · have e1 : newR s = resR (newS s).sts (newS s).l := by unfold newR; rw [if_neg h8]
    rw [e1]
    have hcb : Lib.countB s ⟨#[10]⟩ ≤ 8000 := Nat.le_trans (Lib.countB_le ⟨#[10]⟩ (by decide) s.size s (Nat.le_refl _)) (by omega)
    have HN := Lib.hid (newReader_c s (by omega) 132 m w hm (by omega))
    have hln := lns_len s
    have Hos := Lib.hid (show newS s = nwEnd (nwAll (lns s) 0 (⟨[], nrW 132 (lns s) 0 0, 0, 0, [], 0⟩, 0)) from rfl)
    have hw8 : wt (lns s) ≤ 80000 := by
      have := wt_split ⟨#[10]⟩ (Lib.countB s ⟨#[10]⟩) s
      show wt (Lib.splitB ⟨#[10]⟩ 0 (Lib.countB s ⟨#[10]⟩) s) ≤ 80000
      omega
    have hl9 : (lns s).length ≤ 8001 := by omega
    have Hln := Lib.hid hln
    generalize hst : newS s = st at *
    have Hst := Lib.hid hst
    have Hw8 := Lib.hid hw8
    clear e1 hm hcb hln hst hw8
    go_enter Tryz.func20, Tryz.ntmps20
    go_wp2_with fail
    refine HN.out.mono ?_
    rintro e w1 ⟨rfl, hR, hL, hnl, hB⟩
    have HO := Lib.hid (readNew_c (lns s) w.heap.size (w.heap.size + 1) (nrW 132 (lns s) 0 0) _ (lns s).length (lns s).length w1 rfl rfl (by omega) Hw8.out hnl (by omega) hR hL _ st rfl Hos.out)
    have HB := Lib.hid hB
    clear hR hL hnl hB hl9
    go_wp2_with fail
    refine HO.out.mono ?_
    rintro e w2 ⟨ss, rfl, hR2, hO2, hB2⟩
    have hs1 := HB.out.size
    have HR := Lib.hid (result_c (w.heap.size + 1) (w.heap.size + 1 + 1) _ ss _ _ w2 hR2 hO2)
    have hBB : Below w.heap.size w w2 := HB.out.trans (hB2.mono (by omega))
    clear hR2 hO2 hB2
    go_wp2_with fail
    refine HR.out.mono ?_
    rintro e w3 ⟨v, rfl, hO3, hB3⟩
    have hO4 := own_base hO3 (show w.heap.size ≤ w.heap.size + 1 + 1 by omega)
    have hB4 := bt_ hBB hB3
    clear hO3 hB3 hBB
    go_wp2
    go_ret3
    exact ⟨v, rfl, hO4, hB4⟩
end Go.Proofs.YtdandmbgdndnjaaGreatDoor
