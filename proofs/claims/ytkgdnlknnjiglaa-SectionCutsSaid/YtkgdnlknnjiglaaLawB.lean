/- Arguments that are lists of subscripts of sections. -/
import Derived.Test.YtkgdnlknnjiglaaLawA
import Derived.Deep.Strs
namespace Go.Proofs.Ytkgdnlknnjiglaa
open Go.ChangeShapes Go.WideShapes Go.ChangeAt Go.WideMaps Go.WideElems Go.RowKit

section
variable {H : Type} {enc : TypeId × Value → H} {W : World} {base : Nat} {sp : Nat → Bool} {held : Bool}
theorem sub_cells {fuel : Nat} {cs : List Value} {x : DataW H × List MemPlace} (h : DataW.trod enc Try.prog W base sp held fuel 57 cs = some x) :
    ∃ s : SB, cs = [.bool s.is, .int .i64 s.one, .int .i64 s.lo, .int .i64 s.hi, .int .i64 s.st] ∧ Fit s.one ∧ Fit s.lo ∧ Fit s.hi ∧ Fit s.st := by
  obtain ⟨y0, y1, y2, n, rfl, hl, h0, h1, h2⟩ := Go.Deep.trod_struct3 Try.underlying57 h
  rw [show Try.prog.cellsOf 57 = 5 by kernel_rfl] at hl
  match cs, hl with
  | [c0, c1, c2, c3, c4], _ =>
    rw [show Try.prog.cellsOf 4 = 1 by kernel_rfl] at h0
    rw [show Try.prog.cellsOf 3 = 1 by kernel_rfl] at h1
    rw [show Try.prog.cellsOf 23 = 3 by kernel_rfl] at h2
    simp only [List.drop_zero, List.drop_succ_cons, List.take_succ_cons, List.take_zero] at h0 h1 h2
    obtain ⟨b, e0, _⟩ := DataW.trod_bool Try.underlying4 h0
    obtain ⟨o, e1, _, w1⟩ := DataW.trod_int Try.underlying3 h1
    obtain ⟨z0, z1, z2, n2, _, hl2, k0, k1, k2⟩ := Go.Deep.trod_struct3 Try.underlying23 h2
    rw [show Try.prog.cellsOf 3 = 1 by kernel_rfl] at k0 k1 k2
    simp only [List.drop_zero, List.drop_succ_cons, List.take_succ_cons, List.take_zero] at k0 k1 k2
    obtain ⟨lo, e2, _, w2⟩ := DataW.trod_int Try.underlying3 k0
    obtain ⟨hi, e3, _, w3⟩ := DataW.trod_int Try.underlying3 k1
    obtain ⟨st, e4, _, w4⟩ := DataW.trod_int Try.underlying3 k2
    simp only [List.cons.injEq, and_true] at e0 e1 e2 e3 e4
    subst e0 e1 e2 e3 e4
    exact ⟨⟨b, o, lo, hi, st⟩, rfl, fit_wf w1, fit_wf w2, fit_wf w3, fit_wf w4⟩
theorem open_subs {b0 : Nat} {v : Value} {d : DataW H} {p : List MemPlace} (hv : Value.okWide Try.prog W .any b0 44 v) (h : DataW.Trod enc Try.prog W base sp held 44 v d p) : ∃ l : List SB, RS W v l := by
  obtain ⟨A, n, c, rfl⟩ := okWide_slice Try.underlying44 hv
  obtain ⟨fuel, hf⟩ := h
  have hcs : (Value.slice A n c).cells.toList = [.slice A n c] := rfl
  rw [hcs] at hf
  rcases Go.Deep.open_slice Try.underlying44 hf with ⟨h1, _⟩ | ⟨a, len, cap, m, nn, D, Pl, h1, hb, hl, hm, hmm, hx, hi⟩
  · simp only [List.cons.injEq, Value.slice.injEq, and_true] at h1
    obtain ⟨rfl, rfl, rfl⟩ := h1
    exact ⟨[], none, 0, rfl, by simp, by simp, fun h => by simp at h⟩
  · simp only [List.cons.injEq, Value.slice.injEq, and_true] at h1
    obtain ⟨rfl, rfl, rfl⟩ := h1
    have hlm : n ≤ m := by rw [hmm]; split <;> omega
    have hk : ∀ i, i < n → ∃ s : SB, (W.cell? (a.add (i * 5)) = some (.bool s.is) ∧ W.cell? (a.add (i * 5 + 1)) = some (.int .i64 s.one) ∧ W.cell? (a.add (i * 5 + 2)) = some (.int .i64 s.lo) ∧ W.cell? (a.add (i * 5 + 3)) = some (.int .i64 s.hi) ∧ W.cell? (a.add (i * 5 + 4)) = some (.int .i64 s.st)) ∧ Fit s.one ∧ Fit s.lo ∧ Fit s.hi ∧ Fit s.st := by
      intro i hin
      obtain ⟨cs', hc, ht⟩ := hi i (by omega)
      rw [show Try.prog.cellsOf 57 = 5 by kernel_rfl] at hc
      obtain ⟨s, rfl, hf1⟩ := sub_cells ht
      obtain ⟨_, _, hat⟩ := World.cells?_some hc
      have hadd : ∀ j, (a.add (i * 5)).add j = a.add (i * 5 + j) := fun j => by
        unfold Addr.add
        by_cases h1 : i * 5 = 0
        · rw [if_pos h1, h1, Nat.zero_add]
        · rw [if_neg h1, if_neg (show ¬ i * 5 + j = 0 by omega)]
          by_cases h2 : j = 0
          · rw [if_pos h2, h2]; rfl
          · rw [if_neg h2, Nat.add_assoc]
      refine ⟨s, ⟨?_, ?_, ?_, ?_, ?_⟩, hf1⟩
      · have := hat 0 (by omega); rw [hadd] at this; exact this
      · have := hat 1 (by omega); rw [hadd] at this; exact this
      · have := hat 2 (by omega); rw [hadd] at this; exact this
      · have := hat 3 (by omega); rw [hadd] at this; exact this
      · have := hat 4 (by omega); rw [hadd] at this; exact this
    obtain ⟨l, hln, hl2⟩ := exists_list n hk
    refine ⟨l, some a, c, by rw [hln], by unfold maxLen at hm; omega, fun s hs => ?_, fun h0 => ?_⟩
    · obtain ⟨i, hi, rfl⟩ := List.getElem_of_mem hs
      exact (hl2 i _ (List.getElem?_eq_getElem hi)).2
    · obtain ⟨b, o, spot⟩ := a
      obtain ⟨t0, ht0, _⟩ := hk 0 (by omega)
      have hspot : spot = none := by simpa [Addr.add] using World.cell?_spot ht0.1
      subst hspot
      refine ⟨b, o, rfl, fun j s hs => ?_⟩
      have := (hl2 j s hs).1
      rw [Addr.add_lit, Addr.add_lit, Addr.add_lit, Addr.add_lit, Addr.add_lit] at this
      exact this
end
end Go.Proofs.Ytkgdnlknnjiglaa
