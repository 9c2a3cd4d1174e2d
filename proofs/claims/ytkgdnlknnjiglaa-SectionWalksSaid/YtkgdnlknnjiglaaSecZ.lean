/- Mathematics: walking through all elements. -/
import Derived.Test.YtkgdnlknnjiglaaSecY
import Derived.Test.YtkgdnlknnjiglaaSecR
namespace Go.Proofs.Ytkgdnlknnjiglaa
open Go.RowKit

theorem atGo_gv {d : DS} {a : List Int} (hl : d.st.length = d.ex.length) (h : inR a d.ex = true) : ∀ (m k : Nat), k + m = a.length → atGo (a.drop k) (d.ex.drop k) (d.st.drop k) (gv d a k) = some (gv d a a.length)
  | 0, k, e => by rw [atGo_end (by omega), show k = a.length by omega]
  | m + 1, k, e => by
    obtain ⟨h1, h2⟩ := inR_iff.1 h
    obtain ⟨x, hx⟩ : ∃ x, a[k]? = some x := ⟨_, List.getElem?_eq_getElem (by omega)⟩
    obtain ⟨y, hy⟩ : ∃ y, d.ex[k]? = some y := ⟨_, List.getElem?_eq_getElem (by omega)⟩
    obtain ⟨s, hs⟩ : ∃ s, d.st[k]? = some s := ⟨_, List.getElem?_eq_getElem (by omega)⟩
    rw [atGo_step hx hy hs, if_pos (h2 k x y hx hy), ← gv_succ hx hs]
    exact atGo_gv hl h m (k + 1) (by omega)
theorem at_walk {d : DS} {a : List Int} (hv : vldB d = true) (h : inR a d.ex = true) : atR d a = .tuple #[.int .i64 (gv d a d.ex.length), .int .i64 0] := by
  have hl := (inR_iff.1 h).1
  refine at_yes (by unfold atOk; rw [hv, decide_eq_true hl]; rfl) ?_
  rw [← atO_start]
  have := atGo_gv (vld_ok hv).2.1 h a.length 0 (by omega)
  rw [hl] at this
  exact this
theorem frN_digs : ∀ (C : List Int) (k : Nat), (∀ e ∈ C, 1 ≤ e) → k < (pr C).toNat → (frN (digs C k) C < C.length ↔ k + 1 < (pr C).toNat)
  | [], k, _, h => by simp [pr] at h ⊢
  | c :: C, k, hp, h => by
    have hc := hp c List.mem_cons_self
    have hp2 : ∀ e ∈ C, 1 ≤ e := fun e he => hp e (List.mem_cons_of_mem _ he)
    have hP := (pr_take_le (l := C) C.length hp2).1
    rw [List.take_length] at hP
    have e1 : (pr (c :: C)).toNat = c.toNat * (pr C).toNat := by rw [pr_cons, Int.toNat_mul (by omega) (by omega)]
    rw [e1] at h ⊢
    have hcn : 0 < c.toNat := by omega
    have hq : k / c.toNat < (pr C).toNat := Nat.div_lt_of_lt_mul h
    have ih := frN_digs C (k / c.toNat) hp2 hq
    have hm := Nat.mod_lt k hcn
    have hdm := Nat.div_add_mod k c.toNat
    rw [digs_cons, frN_cons, List.length_cons]
    generalize hQ : (pr C).toNat = Q at *
    generalize hq' : k / c.toNat = q at *
    have h3 : c.toNat * (q + 1) ≤ c.toNat * Q := Nat.mul_le_mul_left _ hq
    rw [Nat.mul_add, Nat.mul_one] at h3
    by_cases h1 : k % c.toNat + 1 < c.toNat
    · rw [if_pos (by omega)]
      constructor
      · intro _; omega
      · intro _; omega
    · rw [if_neg (by omega)]
      have e0 : k + 1 = c.toNat * (q + 1) := by rw [Nat.mul_add, Nat.mul_one]; omega
      rw [e0]
      constructor
      · intro h4
        exact Nat.mul_lt_mul_of_pos_left (ih.1 (by omega)) hcn
      · intro h4
        have := ih.2 (Nat.lt_of_mul_lt_mul_left h4)
        omega
theorem next_walk {C : List Int} {k : Nat} (hp : ∀ e ∈ C, 1 ≤ e) (h : k < (pr C).toNat) : nextB C (atI C k) = decide (k + 1 < (pr C).toNat) := by
  unfold nextB
  rw [atI_in hp k, Bool.true_and, atI_len, atI_digs hp]
  rw [Bool.eq_iff_iff]; simp only [decide_eq_true_eq]
  exact frN_digs C k hp h
theorem plcW_gat {d : DS} (hd : okD d) {k : Nat} (hk : k < (plcW d).length) : (plcW d)[k]? = some (gv d (atI d.ex k) d.ex.length) ∧ (pr d.ex).toNat = (plcW d).length ∧ ∀ e ∈ d.ex, 1 ≤ e := by
  have h := gat_eq hd
  have hl : (plcW d).length = (pr d.ex).toNat := by rw [← h]; simp [gatL]
  have h0 : pr d.ex ≠ 0 := fun e => by rw [e] at hl; omega
  refine ⟨?_, hl.symm, pr_ne (okE_iff.1 hd.1).2.1 h0⟩
  rw [← h]
  unfold gatL
  rw [List.getElem?_map, List.getElem?_range (by omega)]; rfl
end Go.Proofs.Ytkgdnlknnjiglaa
