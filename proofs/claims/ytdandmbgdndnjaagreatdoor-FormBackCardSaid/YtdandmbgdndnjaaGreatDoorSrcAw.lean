/- The sanity check answers true. -/
import Derived.Test.YtdandmbgdndnjaaGreatDoorSrcZ
import Derived.KernelRfl
namespace Go.Proofs.YtdandmbgdndnjaaGreatDoor
open Go.RowKit

def awT : ByteArray := ⟨#[32, 32, 32, 49, 48, 32, 120, 32, 61, 32, 49, 10, 32, 32, 32, 32, 32, 38, 32, 32, 43, 32, 50, 10]⟩
def awL : List UInt8 := [120, 32, 61, 32, 49] ++ List.replicate 61 32 ++ [32, 32, 43, 32, 50]
theorem aw_old : oldR awT = ([(10, awL, 1)], 0, 0) := by kernel_rfl

theorem own_cells {w : World} {b n sz : Nat} {e : TypeId} {v : Value} {xs : List Value} (h : w.ownsRow b e sz v n xs) (h0 : 0 < n) :
    ∃ g cap, v = .slice (some ⟨g, 0, none⟩) n cap ∧ b ≤ g ∧ n ≤ cap ∧ ∀ (i : Nat) (u : Value), xs[i]? = some u → w.cell? ⟨g, i, none⟩ = some u := by
  rcases h.2 with ⟨_, h1⟩ | ⟨g, cap, cur, rfl, hg, hc, hn, _, hs, hx⟩
  · omega
  refine ⟨g, cap, rfl, hg, hn, fun i u hi => ?_⟩
  have hcur : cur[i]? = some u := by
    rw [← hx, List.getElem?_take] at hi
    split at hi
    · simpa using hi
    · cases hi
  simp [World.cell?, hc, hcur]

set_option maxRecDepth 100000 in
set_option maxHeartbeats 2000000 in
theorem Awake_c (m : Int) (w : World) (hm : w.cell? ⟨0, 0, none⟩ = some (.int .i64 m)) :
    Calls Tryz.prog 9 #[] w fun e w' => e = .returned (.bool true) ∧ Below w.heap.size w w' := by
  have H := Lib.hid (Old_c awT m w hm)
  obtain ⟨t, ht⟩ : ∃ t : ByteArray, t = ⟨awL.toArray⟩ := ⟨_, rfl⟩
  have hts : t.size = 71 := by rw [ht]; rfl
  have Ht := Lib.hid ht
  have f1 : ((t.size : Int) == 71) = true := by simp; omega
  have f2 : (t.size == 71) = true := by simp; omega
  clear hm ht
  go_enter Tryz.func9, Tryz.ntmps9
  go_wp2_with fail
  refine H.out.mono ?_
  rw [aw_old]
  rintro e w1 ⟨v, rfl, ho, hB⟩
  obtain ⟨g, cap, rfl, hg, hle, hcs⟩ := own_cells ho (by decide)
  have c0 : w1.cell? ⟨g, 0, none⟩ = some (.int .i64 10) := hcs 0 _ rfl
  have c1 : w1.cell? ⟨g, 1, none⟩ = some (.string t) := by rw [Ht.out]; exact hcs 1 _ rfl
  have c2 : w1.cell? ⟨g, 2, none⟩ = some (.int .i64 1) := hcs 2 _ rfl
  clear ho hcs
  go_wp2
  go_ret
  exact ⟨rfl, hB⟩
end Go.Proofs.YtdandmbgdndnjaaGreatDoor
