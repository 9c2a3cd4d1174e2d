/- The contract of slices.Reverse, laid at this program's numbers, and over a row of the call's own. -/
import Derived.Shelf.Slices.Reverse
import Derived.Lib.OwnBridge
import Derived.Sort.OwnSortedInts
import Derived.Test.YtkgdnlknnjiglaaSecI
namespace Go.Proofs.Ytkgdnlknnjiglaa
open Go.Shelf Go.RowKit
def lays112_ren : Go.Shelf.Ren := ⟨fun | 112 => 64 | n => n, fun | 28 => 29 | 3 => 3 | 4 => 4 | 0 => 0 | n => n, fun | n => n⟩
theorem lays112 : Go.Proofs.Lays.n112 Try.prog lays112_ren := {
  mixed := by kernel_rfl
  f112 := Try.func64.trans (congrArg some (by kernel_rfl))
  t0 := Try.underlying0
  a0 := Try.isAgg0
  z0 := Try.sizeOf0
  v0 := Try.zeroValue0
  t3 := Try.underlying3
  a3 := Try.isAgg3
  z3 := Try.sizeOf3
  v3 := Try.zeroValue3
  t4 := Try.underlying4
  a4 := Try.isAgg4
  z4 := Try.sizeOf4
  v4 := Try.zeroValue4
  t28 := Try.underlying29
  a28 := Try.isAgg29
  z28 := Try.sizeOf29
  v28 := Try.zeroValue29 }
theorem grown_row {w : World} {g q : Nat} (d : Array Int) : w.grownBy (Go.Sort.putRow (Value.int .i64) (Go.Sort.ahead w q) g 0 d) (some g) := by
  refine ⟨rfl, rfl, rfl, by simp [Go.Sort.ahead], fun k _ hne => ?_⟩
  have : g ≠ k := fun e => hne (by rw [e])
  simp [Go.Sort.putRow, Go.Sort.mapBlock, Go.Sort.ahead, Array.getElem?_modify, this]
theorem reverse_c (w : World) (B : Nat) (v : Value) (l : List Int) (h : OW w B v l) : Calls Try.prog 64 #[v] w fun e w' => e = .returned (.tuple #[]) ∧ OW w' B v l.reverse ∧ w.grownBy w' v.ownBlock := by
  by_cases hv : v = .slice none 0 0
  · subst hv
    have hl : l = [] := by
      rcases h.1.2 with ⟨_, h0⟩ | ⟨g, cap, cur, e, _⟩
      · exact List.eq_nil_of_length_eq_zero h0
      · cases e
    subst hl
    exact (Any.slices_Reverse_int_empty lays112 none 0 w).mono fun e w' ⟨h1, h2⟩ => ⟨h1, by rw [h2]; exact h, by rw [h2]; exact World.grownBy.refl w _⟩
  · obtain ⟨g, cap, rfl, hb, hg, hn, hm, hl, hH⟩ := Go.Lib.holds_of_ownsRow (enc := Value.int .i64) h.1 hv
    exact (Any.slices_Reverse_int lays112 g 0 cap l w hH (by have := h.2.2; omega)).mono fun e w' ⟨h1, q, h2⟩ => ⟨h1, by
      subst h2
      have := Go.Lib.ownsRow_putRow (q := q) (ys := l.reverse) (k := l.length) h.1 (by simp) (Nat.le_refl _)
      rw [List.take_of_length_le (by simp)] at this
      exact ⟨by rw [List.length_reverse]; exact this, fun x hx => h.2.1 x (by simpa using hx), by rw [List.length_reverse]; exact h.2.2⟩, by subst h2; exact grown_row _⟩
end Go.Proofs.Ytkgdnlknnjiglaa
