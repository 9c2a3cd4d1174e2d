/- Arguments that are lists of lists of numbers. -/
import Derived.Test.YtkgdnlknnjiglaaLawA
import Derived.Test.YtkgdnlknnjiglaaPkB
namespace Go.Proofs.Ytkgdnlknnjiglaa
open Go.ChangeShapes Go.WideShapes Go.ChangeAt Go.WideMaps Go.WideElems Go.RowKit

section
variable {H : Type} {enc : TypeId × Value → H} {W : World} {base : Nat} {sp : Nat → Bool} {held : Bool}
theorem open_lists {b0 : Nat} {v : Value} {d : DataW H} {p : List MemPlace} (hv : Value.okWide Try.prog W .any b0 47 v) (h : DataW.Trod enc Try.prog W base sp held 47 v d p) : ∃ l : List (List Int), RL W v l := by
  obtain ⟨A, n, c, rfl⟩ := okWide_slice Try.underlying47 hv
  obtain ⟨fuel, hf⟩ := h
  have hcs : (Value.slice A n c).cells.toList = [.slice A n c] := rfl
  rw [hcs] at hf
  rcases Go.Deep.open_slice Try.underlying47 hf with ⟨h1, _⟩ | ⟨a, len, cap, m, nn, D, Pl, h1, hb, hl, hm, hmm, hx, hi⟩
  · simp only [List.cons.injEq, Value.slice.injEq, and_true] at h1
    obtain ⟨rfl, rfl, rfl⟩ := h1
    exact ⟨[], none, 0, rfl, by simp, fun h => by simp at h⟩
  · simp only [List.cons.injEq, Value.slice.injEq, and_true] at h1
    obtain ⟨rfl, rfl, rfl⟩ := h1
    have hlm : n ≤ m := by rw [hmm]; split <;> omega
    have hk : ∀ i, i < n → ∃ l : List Int, ∃ vl, W.cell? (a.add i) = some vl ∧ RI W vl l := by
      intro i hin
      obtain ⟨cs', hc, ht⟩ := hi i (by omega)
      rw [show Try.prog.cellsOf 29 = 1 by kernel_rfl, Nat.mul_one] at hc
      obtain ⟨_, hlen, hat⟩ := World.cells?_some hc
      match cs', hlen with
      | [vl], _ =>
        obtain ⟨l, hl⟩ := open_ints ht
        have := hat 0 (by omega)
        rw [show (a.add i).add 0 = a.add i by simp [Addr.add]] at this
        exact ⟨l, vl, this, hl⟩
    obtain ⟨Ls, hln, hl2⟩ := exists_list n hk
    refine ⟨Ls, some a, c, by rw [hln], by unfold maxLen at hm; omega, fun h0 => ?_⟩
    obtain ⟨b, o, spot⟩ := a
    obtain ⟨t0, vl0, ht0, _⟩ := hk 0 (by omega)
    have hspot : spot = none := by simpa [Addr.add] using World.cell?_spot ht0
    subst hspot
    refine ⟨b, o, rfl, fun j l hj => ?_⟩
    obtain ⟨vl, h3, h4⟩ := hl2 j l hj
    rw [Addr.add_lit] at h3
    exact ⟨vl, h3, h4⟩
end
end Go.Proofs.Ytkgdnlknnjiglaa
