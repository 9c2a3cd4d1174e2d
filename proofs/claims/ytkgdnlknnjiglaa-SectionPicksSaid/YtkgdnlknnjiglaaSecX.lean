/- Contracts of Places and Size of both sides, and of the document's Whole. -/
import Derived.Test.YtkgdnlknnjiglaaSecW
import Derived.Test.YtkgdnlknnjiglaaSecQ
namespace Go.Proofs.Ytkgdnlknnjiglaa
open Go.RowKit

/-- The k-th subscripts, digit by digit. -/
def digs : List Int → Nat → List Int
  | [], _ => []
  | c :: C, k => ((k % c.toNat : Nat) : Int) :: digs C (k / c.toNat)
theorem digs_cons (c : Int) (C : List Int) (k : Nat) : digs (c :: C) k = ((k % c.toNat : Nat) : Int) :: digs C (k / c.toNat) := rfl
theorem frN_cons (s : Int) (S : List Int) (e : Int) (E : List Int) : frN (s :: S) (e :: E) = if s + 1 < e then 0 else frN S E + 1 := rfl
theorem next_digs : ∀ (C : List Int) (k : Nat), (∀ e ∈ C, 1 ≤ e) → nextS C (digs C k) = digs C (k + 1)
  | [], k, _ => by simp [digs, nextS, inR, zeros]
  | c :: C, k, h => by
    have hc := h c List.mem_cons_self
    have ih := next_digs C (k / c.toNat) fun e he => h e (List.mem_cons_of_mem _ he)
    have hcn : 0 < c.toNat := by omega
    have hin : ∀ (C : List Int) (k : Nat), (∀ e ∈ C, 1 ≤ e) → inR (digs C k) C = true := by
      intro C
      induction C with
      | nil => intro k _; rfl
      | cons b C ih =>
        intro k h
        have hb := h b List.mem_cons_self
        unfold digs inR
        rw [ih _ fun e he => h e (List.mem_cons_of_mem _ he), Bool.and_true]
        have := Nat.mod_lt k (show 0 < b.toNat by omega)
        exact sub_iff.2 ⟨by omega, by omega⟩
    have hi := hin (c :: C) k h
    have hi2 := hin C (k / c.toNat) fun e he => h e (List.mem_cons_of_mem _ he)
    have hm := Nat.mod_lt k hcn
    have hdm := Nat.div_add_mod k c.toNat
    unfold nextS at ih ⊢
    rw [if_pos hi]
    rw [if_pos hi2] at ih
    by_cases h1 : k % c.toNat + 1 < c.toNat
    · have e1 : (k + 1) / c.toNat = k / c.toNat := by
        rw [Nat.div_eq_iff hcn] ; constructor <;> (have := Nat.mul_comm c.toNat (k / c.toNat); omega)
      have e2 : (k + 1) % c.toNat = k % c.toNat + 1 := by
        have := Nat.div_add_mod (k + 1) c.toNat
        rw [e1] at this; omega
      have hf : frN (digs (c :: C) k) (c :: C) = 0 := by
        unfold digs frN; rw [if_pos (by omega)]
      rw [hf, if_pos (by simp [digs])]
      unfold bump zeros
      unfold digs
      rw [e1, e2]
      simp
    · have e0 : k % c.toNat + 1 = c.toNat := by omega
      have e1 : (k + 1) / c.toNat = k / c.toNat + 1 := by
        rw [Nat.div_eq_iff hcn]; constructor <;> (rw [Nat.add_mul]; have := Nat.mul_comm c.toNat (k / c.toNat); omega)
      have e2 : (k + 1) % c.toNat = 0 := by
        have := Nat.div_add_mod (k + 1) c.toNat
        rw [e1, Nat.mul_add] at this; omega
      have hf : frN (digs (c :: C) k) (c :: C) = frN (digs C (k / c.toNat)) C + 1 := by
        rw [digs_cons, frN_cons, if_neg (by omega)]
      have hd : digs (c :: C) k = ((k % c.toNat : Nat) : Int) :: digs C (k / c.toNat) := rfl
      have hd2 : digs (c :: C) (k + 1) = 0 :: digs C (k / c.toNat + 1) := by rw [digs_cons, e1, e2]; rfl
      rw [hf, hd2, ← ih, hd, List.length_cons]
      by_cases h3 : frN (digs C (k / c.toNat)) C < (digs C (k / c.toNat)).length
      · rw [if_pos (by omega), if_pos h3]
        unfold bump zeros
        simp [List.replicate_succ]
      · rw [if_neg (by omega), if_neg h3]
        simp [zeros, List.replicate_succ]
theorem digs_zero : ∀ (C : List Int), digs C 0 = zeros C.length
  | [] => rfl
  | c :: C => by unfold digs; rw [Nat.zero_mod, Nat.zero_div, digs_zero C]; rfl
theorem atI_digs {C : List Int} (h : ∀ e ∈ C, 1 ≤ e) : ∀ k, atI C k = digs C k
  | 0 => (digs_zero C).symm
  | k + 1 => by rw [atI, atI_digs h k, next_digs C k h]
theorem stepW_at {out : List Int} {s : Int} : ∀ {e m : Nat}, m < e * out.length → (stepW out s e)[m]? = some (w64 (out.getD (m % out.length) 0 + (m / out.length : Nat) * s))
  | 0, m, h => by simp at h
  | e + 1, m, h => by
    rw [stepW_succ]
    by_cases hm : m < e * out.length
    · rw [List.getElem?_append_left (by rw [stepW_len]; exact hm)]
      exact stepW_at hm
    · rw [Nat.succ_mul] at h
      have hL : 0 < out.length := by omega
      rw [List.getElem?_append_right (by rw [stepW_len]; omega), stepW_len]
      have h1 : m - e * out.length < out.length := by omega
      have hd : m / out.length = e := by
        rw [Nat.div_eq_iff hL]; omega
      have hmod : m % out.length = m - e * out.length := by
        have := Nat.div_add_mod m out.length
        rw [hd, Nat.mul_comm] at this; omega
      unfold chunk
      rw [List.getElem?_map, List.getElem?_eq_getElem h1, hd, hmod, List.getD_eq_getElem?_getD, List.getElem?_eq_getElem h1]; rfl
theorem digs_at : ∀ (C : List Int) (k j : Nat) (c : Int), (∀ e ∈ C, 1 ≤ e) → C[j]? = some c → (digs C k)[j]? = some ((k / (pr (C.take j)).toNat % c.toNat : Nat) : Int)
  | [], _, _, _, _, h => by simp at h
  | b :: C, k, 0, c, _, h => by
    obtain rfl : b = c := by simpa using h
    simp [digs, pr]
  | b :: C, k, j + 1, c, hp, h => by
    have hb := hp b List.mem_cons_self
    have hp2 : ∀ e ∈ C, 1 ≤ e := fun e he => hp e (List.mem_cons_of_mem _ he)
    have ih := digs_at C (k / b.toNat) j c hp2 (by simpa using h)
    have e1 : (pr ((b :: C).take (j + 1))).toNat = b.toNat * (pr (C.take j)).toNat := by
      rw [List.take_succ_cons, pr_cons]
      have h1 := (pr_take_le (l := C) j hp2).1
      rw [Int.toNat_mul (by omega) (by omega)]
    rw [e1, ← Nat.div_div_eq_div_mul]
    simpa [digs] using ih
theorem plcK_at {d : DS} (hd : okD d) (h0 : pr d.ex ≠ 0) (k : Nat) : ∀ (j : Nat), j ≤ d.ex.length → (plcK d j)[k % (plcK d j).length]? = some (gv d (digs d.ex k) j)
  | 0, _ => by simp [plcK, gv, Nat.mod_one]
  | j + 1, hj => by
    have hp : ∀ e ∈ d.ex, 1 ≤ e := pr_ne (okE_iff.1 hd.1).2.1 h0
    have ih := plcK_at hd h0 k j (by omega)
    obtain ⟨e, he⟩ : ∃ e, d.ex[j]? = some e := ⟨_, List.getElem?_eq_getElem (by omega)⟩
    obtain ⟨s, hs⟩ : ∃ s, d.st[j]? = some s := ⟨_, List.getElem?_eq_getElem (by rw [hd.2.1]; omega)⟩
    have hL := (len_le hd h0 (k := j) (by omega)).1
    have hLL := plcK_len hd j (by omega)
    have he1 := hp e (List.mem_of_getElem? he)
    have hdg := digs_at d.ex k j e hp he
    rw [gv_succ hdg hs, plcK_succ he hs, stepW_len]
    have hpos : 0 < e.toNat * (plcK d j).length := Nat.mul_pos (by omega) (by omega)
    rw [stepW_at (Nat.mod_lt _ hpos)]
    have e1 : k % (e.toNat * (plcK d j).length) % (plcK d j).length = k % (plcK d j).length := by
      rw [Nat.mul_comm]; exact Nat.mod_mul_right_mod k _ _
    have e2 : k % (e.toNat * (plcK d j).length) / (plcK d j).length = k / (plcK d j).length % e.toNat := by
      rw [Nat.mul_comm]; exact Nat.mod_mul_right_div_self k _ _
    rw [e1, e2, List.getD_eq_getElem?_getD, ih, show (pr (d.ex.take j)).toNat = (plcK d j).length by rw [← hLL]; simp]
    rfl
/-- What gather lists is what the document lists. -/
theorem gat_eq {d : DS} (hd : okD d) : gatL d d.ex (pr d.ex).toNat = plcW d := by
  by_cases h0 : pr d.ex = 0
  · unfold plcW gatL; rw [if_pos h0, h0]; rfl
  · have hp : ∀ e ∈ d.ex, 1 ≤ e := pr_ne (okE_iff.1 hd.1).2.1 h0
    have hlen := plcK_len hd d.ex.length (Nat.le_refl _)
    rw [List.take_length] at hlen
    unfold plcW
    rw [if_neg h0]
    apply List.ext_getElem?
    intro k
    by_cases hk : k < (pr d.ex).toNat
    · have h1 := plcK_at hd h0 k d.ex.length (Nat.le_refl _)
      rw [Nat.mod_eq_of_lt (by omega)] at h1
      rw [h1]
      unfold gatL
      rw [List.getElem?_map, List.getElem?_range hk, Option.map_some, atI_digs hp]
    · rw [List.getElem?_eq_none (by simp [gatL]; omega), List.getElem?_eq_none (by omega)]
end Go.Proofs.Ytkgdnlknnjiglaa
