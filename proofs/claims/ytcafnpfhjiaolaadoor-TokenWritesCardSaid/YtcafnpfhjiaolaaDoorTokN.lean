/- The plain mathematics of Scan: which tokens a text has, or where one is malformed; each token ends behind its begin. -/
import Derived.Test.YtcafnpfhjiaolaaDoorTokM
namespace Go.Proofs.YtcafnpfhjiaolaaDoor

theorem isW_at {L : List UInt8} {i : Nat} {t : List UInt8} (h : isW L i t = true) (k : Nat) (hk : k < t.length) : t[k]? = (L[i + k]?).map loB ∧ i + t.length ≤ L.length := by
  unfold isW at h
  simp only [decide_eq_true_eq] at h
  refine ⟨?_, h.1⟩
  have h2 : (low (sub L i (i + t.length)))[k]? = t[k]? := by rw [h.2]
  rw [← h2]
  unfold low sub
  rw [List.getElem?_map, List.getElem?_take, if_pos (by omega), List.getElem?_drop]
theorem word_no {L : List UInt8} {i : Nat} (h : cD (bt L (i + 1)) = true) : wordP L i = none := by
  unfold wordP
  rw [List.find?_eq_none]
  intro w hw hc
  have h2 : ∀ t ∈ wordsL, 1 < t.2.length ∧ ∃ x, t.2[1]? = some x ∧ 97 ≤ x.toNat := by
    intro t ht
    simp only [wordsL, List.mem_cons, List.not_mem_nil, or_false] at ht
    rcases ht with rfl | rfl | rfl | rfl | rfl | rfl <;> exact ⟨by decide, _, rfl, by decide⟩
  obtain ⟨hl, x, hx, hx1⟩ := h2 w hw
  obtain ⟨h3, h4⟩ := isW_at hc 1 hl
  rw [hx] at h3
  have hi : i + 1 < L.length := by omega
  rw [List.getElem?_eq_getElem hi] at h3
  simp only [Option.map_some, Option.some.injEq] at h3
  have hb : bt L (i + 1) = (L[i + 1]).toNat := by unfold bt; rw [List.getD_eq_getElem?_getD, List.getElem?_eq_getElem hi]; rfl
  have h5 : 48 ≤ bt L (i + 1) ∧ bt L (i + 1) ≤ 57 := by simpa [cD] using h
  rw [hb] at h5
  unfold loB at h3
  rw [if_neg (by omega)] at h3
  rw [h3] at hx1
  omega

theorem numP_gt (L : List UInt8) (i : Nat) (h : cD (bt L i) = true ∨ bt L i = 46 ∧ cD (bt L (i + 1)) = true) (hi : i < L.length) (t : Tok) (e : Nat) (hn : numP L i = some (t, e)) : i < e ∧ e ≤ L.length := by
  have hn2 : (numE L i).1 = e := by
    unfold numP at hn
    by_cases hc : (if (numE L i).2.1 = true then 60 else 10) < (numE L i).2.2 ∨ cI (bt L (numE L i).1) = true
    · simp only [if_pos hc] at hn; cases hn
    · simp only [if_neg hc, Option.some.injEq, Prod.mk.injEq] at hn; exact hn.2
  rw [← hn2]
  unfold numE
  simp only []
  have hl1 := rn_le cD L i (by omega)
  rcases h with h | ⟨h1, h2⟩
  · have h1 : i + 1 ≤ rn cD L i := by rw [rn_step hi h]; exact rn_ge _ _ _
    split
    · rename_i hp
      have := pbP_in hp
      have := rn_ge cD L (rn cD L i + 1)
      have hl2 := rn_le cD L (rn cD L i + 1) (by omega)
      have := expP_ge L (rn cD L (rn cD L i + 1))
      have := expP_le L _ hl2
      omega
    · have := expP_ge L (rn cD L i)
      have := expP_le L _ hl1
      omega
  · have hd : cD (bt L i) = false := by rw [h1]; rfl
    have e1 : rn cD L i = i := rn_stop fun _ => hd
    rw [e1]
    have hp : pbP L i = true := by
      unfold pbP
      rw [h1, word_no h2]
      have ho : cO (bt L (i + 1)) = false := by
        have h3 : 48 ≤ bt L (i + 1) ∧ bt L (i + 1) ≤ 57 := by simpa [cD] using h2
        unfold cO cL; simp; omega
      rw [ho]; rfl
    rw [if_pos hp]
    have := rn_ge cD L (i + 1)
    have hl2 := rn_le cD L (i + 1) (by omega)
    have := expP_ge L (rn cD L (i + 1))
    have := expP_le L _ hl2
    omega

theorem quoP_gt (L : List UInt8) (q i : Nat) (k : List UInt8) (r : List UInt8 × Nat) (h : quoP L q i k = some r) : i < r.2 ∧ r.2 ≤ L.length := by
  rw [quoP] at h
  split at h
  · rename_i hl
    have := rn_ge (neB q) L i
    split at h
    · have := quoP_gt L q _ _ r h
      omega
    · simp only [Option.some.injEq] at h
      rw [← h]; simp only []; omega
  · cases h
termination_by L.length - i
decreasing_by have := rn_ge (neB q) L i; omega

theorem opP_gt (L : List UInt8) (i : Nat) (hi : i < L.length) (t : Tok) (e : Nat) (h : opP L i = some (t, e)) : i < e ∧ e ≤ L.length := by
  unfold opP at h
  split at h
  · rename_i w hw
    simp only [Option.some.injEq, Prod.mk.injEq] at h
    rw [← h.2]
    have h1 := List.mem_of_find?_eq_some hw
    have h3 := (show ∀ t ∈ wordsL, 0 < t.2.length by decide) w h1
    have hw2 : isW L i w.2 = true := List.find?_some (p := fun w : Tok => isW L i w.2) hw
    have := (isW_at hw2 0 h3).2
    omega
  · split at h
    · rename_i p hp
      simp only [Option.some.injEq, Prod.mk.injEq] at h
      rw [← h.2]
      have h1 := List.mem_of_find?_eq_some hp
      have h2 : p.isPrefixOf (L.drop i) = true := List.find?_some (p := fun p : List UInt8 => p.isPrefixOf (L.drop i)) hp
      have h3 := (show ∀ t ∈ pairsL, t.length = 2 by decide) p h1
      have h4 := (List.isPrefixOf_iff_prefix.1 h2).length_le
      rw [List.length_drop] at h4
      omega
    · split at h
      · simp only [Option.some.injEq, Prod.mk.injEq] at h; omega
      · cases h

/-- A token ends behind its begin, within the text. -/
theorem nxtP_gt (L : List UInt8) (i : Nat) (hi : i < L.length) (t : Tok) (e : Nat) (h : nxtP L i = some (t, e)) : i < e ∧ e ≤ L.length := by
  unfold nxtP at h
  split at h
  · rename_i hc
    unfold nameP at h
    split at h
    · simp only [Option.some.injEq, Prod.mk.injEq] at h
      rw [← h.2]
      have h1 : i + 1 ≤ rn cI L i := by rw [rn_step hi (by simp [cI, hc])]; exact rn_ge _ _ _
      exact ⟨h1, rn_le cI L i (by omega)⟩
    · cases h
  · split at h
    · rename_i hc
      exact numP_gt L i hc hi t e h
    · split at h
      · unfold textP at h
        rw [Option.map_eq_some_iff] at h
        obtain ⟨r, hr, h2⟩ := h
        simp only [Prod.mk.injEq] at h2
        have := quoP_gt L _ _ _ r hr
        omega
      · exact opP_gt L i hi t e h

/-- The tokens from a place on, or where one is malformed. -/
def scanL (L : List UInt8) (i : Nat) : Except Nat (List Tok) :=
  if i < L.length then
    match nxtP L i with
    | none => .error i
    | some (t, e) => if i < e then (match scanL L (rn (eqB 32) L e) with | .error a => .error a | .ok l => .ok (t :: l)) else .error i
  else .ok []
termination_by L.length - i
decreasing_by have := rn_ge (eqB 32) L e; omega
/-- What Scan answers: the tokens, the place, the error. -/
def scanP (L : List UInt8) : List Tok × Nat × Nat :=
  if rn cOk L 0 < L.length then ([], rn cOk L 0, 3)
  else match scanL L (rn (eqB 32) L 0) with
    | .error a => ([], a, 3)
    | .ok l => (l, 0, 0)
/-- The tokens so far ahead of the rest. -/
def pre (acc : List Tok) : Except Nat (List Tok) → Except Nat (List Tok)
  | .error a => .error a
  | .ok l => .ok (acc ++ l)
theorem scan_end {L : List UInt8} {i : Nat} (h : ¬ i < L.length) : scanL L i = .ok [] := by
  rw [scanL, if_neg h]
theorem scan_bad {L : List UInt8} {i : Nat} (h : i < L.length) (hn : nxtP L i = none) : scanL L i = .error i := by
  rw [scanL, if_pos h, hn]
theorem scan_step {L : List UInt8} {i e : Nat} {t : Tok} {acc : List Tok} (h : i < L.length) (hn : nxtP L i = some (t, e)) : pre acc (scanL L i) = pre (acc ++ [t]) (scanL L (rn (eqB 32) L e)) := by
  have := (nxtP_gt L i h t e hn).1
  rw [scanL, if_pos h, hn]
  simp only [if_pos this]
  cases scanL L (rn (eqB 32) L e) <;> simp [pre]
end Go.Proofs.YtcafnpfhjiaolaaDoor
