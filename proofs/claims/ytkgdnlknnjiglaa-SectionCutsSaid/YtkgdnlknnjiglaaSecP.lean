/- Where the document's places are the exact ones; contracts of the document's Valid, Size and Places. -/
import Derived.Test.YtkgdnlknnjiglaaSecO
namespace Go.Proofs.Ytkgdnlknnjiglaa
open Go.RowKit

theorem fold_eq : ∀ (l : List (Int × Int)) (out : List Int) (M : Int), (∀ p ∈ l, (0 ≤ p.1 ∧ p.1 ≤ 4000) ∧ -2147483648 ≤ p.2 ∧ p.2 ≤ 2147483648) → (∀ x ∈ out, -M ≤ x ∧ x ≤ M) → M + l.length * 8589934592000 ≤ 4000000000000000000 →
    l.foldl (fun out p => stepW out p.2 p.1.toNat) out = combo out (l.map offs)
  | [], out, M, _, _, _ => rfl
  | p :: l, out, M, hp, ho, hM => by
    obtain ⟨⟨h1, h2⟩, h3, h4⟩ := hp p List.mem_cons_self
    rw [List.length_cons] at hM
    have hs : ∀ (i : Nat), i < p.1.toNat → ∀ y ∈ out, w64 (y + i * p.2) = y + i * p.2 := fun i hi y hy => w64_of (by
      have := mul_near (x := (i : Int)) (y := p.2) (by omega) (by omega) h3 h4
      have := ho y hy
      unfold Fit; omega)
    have e : stepW out p.2 p.1.toNat = stepO out (offs p) := by
      have e1 : stepO out (offs p) = (List.range p.1.toNat).flatMap fun i : Nat => out.map fun y => y + (i : Int) * p.2 := by
        unfold stepO offs; rw [List.flatMap_map]
      rw [e1]
      have hh : ∀ (L : List Nat), (∀ i ∈ L, i < p.1.toNat) → L.flatMap (chunk out p.2) = L.flatMap fun i : Nat => out.map fun y => y + (i : Int) * p.2 := by
        intro L hL
        induction L with
        | nil => rfl
        | cons i L ih =>
          rw [List.flatMap_cons, List.flatMap_cons, ih fun j hj => hL j (List.mem_cons_of_mem _ hj)]
          congr 1
          exact List.map_congr_left fun y hy => hs i (hL i List.mem_cons_self) y hy
      exact hh _ fun i hi => List.mem_range.1 hi
    show l.foldl (fun out p => stepW out p.2 p.1.toNat) (stepW out p.2 p.1.toNat) = combo (stepO out (offs p)) (l.map offs)
    rw [e]
    refine fold_eq l _ (M + 8589934592000) (fun q hq => hp q (List.mem_cons_of_mem _ hq)) (fun x hx => ?_) (by omega)
    obtain ⟨o, ho2, y, hy, rfl⟩ := mem_stepO.1 hx
    obtain ⟨i, hi, rfl⟩ := mem_offs.1 ho2
    have := mul_near (x := (i : Int)) (y := p.2) (by omega) (by omega) h3 h4
    have := ho y hy
    omega
theorem zip_fine0 {d : DS} (h : okD d) : ∀ p ∈ d.ex.zip d.st, (0 ≤ p.1 ∧ p.1 ≤ 4000) ∧ -2147483648 ≤ p.2 ∧ p.2 ≤ 2147483648 := by
  intro p hp
  have hp := List.of_mem_zip hp
  exact ⟨(okE_iff.1 h.1).2.1 _ hp.1, near_iff.1 (List.all_eq_true.1 h.2.2.1 _ hp.2)⟩
theorem plcW_eq {d : DS} (h : okD d) (hb : pr d.ex = 0 ∨ d.b ≤ 2147483648) : plcW d = plc d := by
  unfold plcW plc
  by_cases h0 : pr d.ex = 0
  · rw [if_pos h0, if_pos h0]
  · rw [if_neg h0, if_neg h0]
    unfold plcK
    rw [List.take_of_length_le (by rw [zip_len h]; exact Nat.le_refl _)]
    have hb := hb.resolve_left h0
    have hl := (okE_iff.1 h.1).1
    have h4 := h.2.2.2
    refine fold_eq _ _ 2147483648 (zip_fine0 h) (fun x hx => by rw [List.mem_singleton.1 hx]; omega) (by rw [zip_len h]; omega)
theorem stepW_head {out : List Int} {s x : Int} {e : Nat} (hx : out[0]? = some x) (he : 0 < e) (hf : Fit x) : (stepW out s e)[0]? = some x := by
  obtain ⟨e, rfl⟩ : ∃ m, e = m + 1 := ⟨e - 1, by omega⟩
  unfold stepW
  rw [List.range_succ_eq_map, List.flatMap_cons]
  rcases out with _ | ⟨y, out⟩
  · simp at hx
  · obtain rfl : y = x := by simpa using hx
    simp [chunk, w64_of hf]
theorem plcW_head {d : DS} (h : okD d) (h0 : pr d.ex ≠ 0) (hf : Fit d.b) : (plcW d)[0]? = some d.b := by
  have key : ∀ (l : List (Int × Int)) (out : List Int), (∀ p ∈ l, 1 ≤ p.1) → out[0]? = some d.b → (l.foldl (fun out p => stepW out p.2 p.1.toNat) out)[0]? = some d.b := by
    intro l
    induction l with
    | nil => intro out _ h; exact h
    | cons p l ih =>
      intro out hp ho
      have := hp p List.mem_cons_self
      exact ih _ (fun q hq => hp q (List.mem_cons_of_mem _ hq)) (stepW_head ho (by omega) hf)
  unfold plcW plcK
  rw [if_neg h0]
  exact key _ _ (fun p hp => ((zip_fine h h0 _) p hp).1.1) rfl
theorem vld_W {d : DS} (h : okD d) (hf : Fit d.b) : vldB d = (plcW d).all placeB := by
  by_cases hb : pr d.ex = 0 ∨ d.b ≤ 2147483648
  · rw [plcW_eq h hb, vld_ref, h.1, decide_eq_true h.2.1, h.2.2.1, decide_eq_true h.2.2.2]; simp
  · have h0 : pr d.ex ≠ 0 := fun e => hb (Or.inl e)
    have h1 : ¬ d.b ≤ 2147483648 := fun e => hb (Or.inr e)
    rw [vld_5 h, decide_eq_false h0, decide_eq_false h1]
    have := plcW_head h h0 hf
    symm
    show _ = false
    rw [List.all_eq_false]
    exact ⟨d.b, List.mem_of_getElem? this, by unfold placeB; simp; omega⟩
end Go.Proofs.Ytkgdnlknnjiglaa
