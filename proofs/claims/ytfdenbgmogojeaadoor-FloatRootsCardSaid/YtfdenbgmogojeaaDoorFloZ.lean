/- The plain mathematics of a float as sign and size, and of next floats: no program; for every kind and every float of it. -/
import Derived.Test.YtfdenbgmogojeaaDoorFloX
namespace Go.Proofs.YtfdenbgmogojeaaDoor
open Go Go.RowKit

theorem jn_parts (W D E s z : Int) (h : KL W D E) (hs : Sgn s) (z0 : 0 ≤ z) (z1 : z < hf W) :
    siz W (jn W s z) = z ∧ sgn W (jn W s z) = s ∧ okB W (jn W s z) = true ∧ I64 (jn W s z) := by
  have hW : W = 16 ∨ W = 32 ∨ W = 64 := by rcases h with ⟨e, _⟩ | ⟨e, _⟩ | ⟨e, _⟩ <;> simp [e]
  have hsg : ∀ a, a % 18446744073709551616 < hf W → sgn W a = 0 := fun a q => by unfold sgn; rw [if_pos q]
  have hsg1 : ∀ a, ¬ a % 18446744073709551616 < hf W → sgn W a = 1 := fun a q => by unfold sgn; rw [if_neg q]
  have hok : ∀ a, (W = 64 ∨ (0 ≤ a ∧ a < 2 * hf W)) → okB W a = true := fun a q => by
    unfold okB; rcases q with q | ⟨q1, q2⟩
    · simp [q]
    · simp [q1, q2]
  rcases hW with rfl | rfl | rfl <;> rcases hs with rfl | rfl
  all_goals
    simp only [hf16, hf32, hf64] at z1
    refine ⟨?_, ?_, hok _ ?_, ?_⟩
    · unfold siz jn; simp only [hf16, hf32, hf64]; omega
    · first
        | (refine hsg _ ?_; unfold jn; simp only [hf16, hf32, hf64]; omega)
        | (refine hsg1 _ ?_; unfold jn; simp only [hf16, hf32, hf64]; omega)
    · first
        | exact .inl rfl
        | (unfold jn; simp only [hf16, hf32]; omega)
    · unfold I64 jn; simp only [hf16, hf32, hf64]; omega
theorem jn_eta (W D E a : Int) (h : KL W D E) (hv : okB W a = true) (hi : I64 a) : jn W (sgn W a) (siz W a) = a := by
  have hW : W = 16 ∨ W = 32 ∨ W = 64 := by rcases h with ⟨e, _⟩ | ⟨e, _⟩ | ⟨e, _⟩ <;> simp [e]
  have hv' : W = 64 ∨ (0 ≤ a ∧ a < 2 * hf W) := by
    unfold okB at hv; simp at hv; exact hv
  unfold I64 at hi
  unfold jn sgn siz
  by_cases c : a % 18446744073709551616 < hf W
  · rw [if_pos c]
    rcases hW with rfl | rfl | rfl <;> (simp only [hf16, hf32, hf64] at *; omega)
  · rw [if_neg c]
    rcases hW with rfl | rfl | rfl <;> (simp only [hf16, hf32, hf64] at *; omega)
theorem cls_z (W D E z : Int) (h : KL W D E) (_z0 : 0 ≤ z) (z1 : z ≤ endl D) : ¬ cls D z = 4 ∧ (cls D z = 0 ↔ z = 0) ∧ (cls D z = 3 ↔ z = endl D) := by
  obtain ⟨h1, h2, h3, _, _⟩ := hid_b W D E h
  unfold cls; repeat' split
  all_goals omega
theorem side_t : side true = 0 := rfl
theorem side_f : side false = 1 := rfl

/-- A float is made by its sign and size; the next one of it. -/
theorem next_jn (W D E s z : Int) (up : Bool) (h : KL W D E) (hs : Sgn s) (z0 : 0 ≤ z) (z1 : z ≤ endl D) :
    nextF W D (jn W s z) up = if z = 0 then jn W (side up) 1 else if s ≠ side up then jn W (1 - side up) (z - 1) else if z = endl D then jn W s z else jn W (side up) (z + 1) := by
  have hb := hf_b h
  obtain ⟨e1, e2, _, _⟩ := jn_parts W D E s z h hs z0 (by omega)
  obtain ⟨c4, c0, c3⟩ := cls_z W D E z h z0 z1
  unfold nextF
  rw [e1, e2, if_neg c4]
  simp only [c0, c3]

/-- What FloatSteps says of a float that is neither zero nor infinite nor no number. -/
theorem steps_math (W D E a : Int) (h : KL W D E) (hv : okB W a = true) (hi : I64 a) (hc : cls D (siz W a) = 1 ∨ cls D (siz W a) = 2) :
    okB W (nextF W D a false) = true ∧ okB W (nextF W D a true) = true ∧ nextF W D (nextF W D a false) true = a ∧ nextF W D (nextF W D a true) false = a ∧ cmpF W D (nextF W D a false) a = -1 := by
  have he := jn_eta W D E a h hv hi
  obtain ⟨z0, z1⟩ := siz_b W D E a h
  have hs := sgn_s W a
  generalize siz W a = z at *
  generalize sgn W a = s at *
  subst he
  have hb := hf_b h
  obtain ⟨h1, h2, h3, _, _⟩ := hid_b W D E h
  have hz : 1 ≤ z ∧ z < endl D := by
    unfold cls at hc; repeat' split at hc
    all_goals omega
  have o1 := fun s' z' hs' a b => (jn_parts W D E s' z' h hs' a b)
  have hcmp : ∀ z', 0 ≤ z' → z' ≤ endl D → (if s = 1 then -z' else z') < (if s = 1 then -z else z) → cmpF W D (jn W s z') (jn W s z) = -1 := by
    intro z' p1 p2 p3
    obtain ⟨q1, q2, _, _⟩ := o1 s z' hs p1 (by omega)
    obtain ⟨r1, r2, _, _⟩ := o1 s z hs z0 z1
    obtain ⟨c4, _, _⟩ := cls_z W D E z h z0 (by omega)
    obtain ⟨d4, _, _⟩ := cls_z W D E z' h p1 p2
    unfold cmpF placeF
    rw [q1, q2, r1, r2, if_neg (by rintro (q | q); exact d4 q; exact c4 q), if_pos p3]
  rcases hs with rfl | rfl
  · rw [next_jn W D E 0 z false h (.inl rfl) z0 (by omega), next_jn W D E 0 z true h (.inl rfl) z0 (by omega)]
    simp only [side_t, side_f, if_neg (show ¬ z = 0 by omega), if_pos (show (0 : Int) ≠ 1 by decide), if_neg (show ¬ (0 : Int) ≠ 0 by decide), if_neg (show ¬ z = endl D by omega), show (1 : Int) - 1 = 0 by decide]
    refine ⟨(o1 0 (z - 1) (.inl rfl) (by omega) (by omega)).2.2.1, (o1 0 (z + 1) (.inl rfl) (by omega) (by omega)).2.2.1, ?_, ?_, hcmp (z - 1) (by omega) (by omega) (by simp; omega)⟩
    · rw [next_jn W D E 0 (z - 1) true h (.inl rfl) (by omega) (by omega)]
      simp only [side_t, if_neg (show ¬ (0 : Int) ≠ 0 by decide), if_neg (show ¬ z - 1 = endl D by omega)]
      by_cases c : z - 1 = 0
      · rw [if_pos c, show z = 1 by omega]
      · rw [if_neg c, show z - 1 + 1 = z by omega]
    · rw [next_jn W D E 0 (z + 1) false h (.inl rfl) (by omega) (by omega)]
      simp only [side_f, if_pos (show (0 : Int) ≠ 1 by decide), if_neg (show ¬ z + 1 = 0 by omega), show (1 : Int) - 1 = 0 by decide]
      rw [show z + 1 - 1 = z by omega]
  · rw [next_jn W D E 1 z false h (.inr rfl) z0 (by omega), next_jn W D E 1 z true h (.inr rfl) z0 (by omega)]
    simp only [side_t, side_f, if_neg (show ¬ z = 0 by omega), if_pos (show (1 : Int) ≠ 0 by decide), if_neg (show ¬ (1 : Int) ≠ 1 by decide), if_neg (show ¬ z = endl D by omega), show (1 : Int) - 0 = 1 by decide]
    refine ⟨(o1 1 (z + 1) (.inr rfl) (by omega) (by omega)).2.2.1, (o1 1 (z - 1) (.inr rfl) (by omega) (by omega)).2.2.1, ?_, ?_, hcmp (z + 1) (by omega) (by omega) (by simp; omega)⟩
    · rw [next_jn W D E 1 (z + 1) true h (.inr rfl) (by omega) (by omega)]
      simp only [side_t, if_pos (show (1 : Int) ≠ 0 by decide), if_neg (show ¬ z + 1 = 0 by omega), show (1 : Int) - 0 = 1 by decide]
      rw [show z + 1 - 1 = z by omega]
    · rw [next_jn W D E 1 (z - 1) false h (.inr rfl) (by omega) (by omega)]
      simp only [side_f, if_neg (show ¬ (1 : Int) ≠ 1 by decide), if_neg (show ¬ z - 1 = endl D by omega)]
      by_cases c : z - 1 = 0
      · rw [if_pos c, show z = 1 by omega]
      · rw [if_neg c, show z - 1 + 1 = z by omega]
end Go.Proofs.YtfdenbgmogojeaaDoor
