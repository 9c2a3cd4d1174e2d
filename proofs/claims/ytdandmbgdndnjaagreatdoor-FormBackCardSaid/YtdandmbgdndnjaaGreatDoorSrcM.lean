/- Which texts can be printed, byte by byte: what the search for a rune that cannot finds. -/
import Derived.Shelf.GgClosure.StringsRunes
import Derived.Lib.DecodeN
namespace Go.Proofs.YtdandmbgdndnjaaGreatDoor
open Go.RowKit Go.Lib

/-- Whether all bytes are from 32 to 126. -/
def prB (L : List UInt8) : Bool := L.all fun c => decide (32 ≤ c.toNat) && decide (c.toNat ≤ 126)
/-- Whether a rune is none of these. -/
def badR (x : Nat) : Bool := decide (x < 32) || decide (126 < x)

theorem decN_hi (n b0 b1 b2 b3 : Nat) (h : 128 ≤ b0) : 128 ≤ (decodeN n b0 b1 b2 b3).1 := by
  unfold decodeN
  rw [if_neg (by omega)]
  repeat' split
  all_goals (simp only []; omega)

theorem idx_pr (s : ByteArray) : ∀ f pos, s.size ≤ pos + f → (decide (0 ≤ idxFuncFrom badR true s f pos)) = !(prB (s.data.toList.drop pos))
  | 0, pos, h => by
    rw [List.drop_of_length_le (by simp; omega)]; rfl
  | f + 1, pos, h => by
    by_cases hp : pos < s.size
    · have hl : pos < s.data.toList.length := by simpa using hp
      have hg : s.get! pos = s.data.toList[pos] := by
        show s.data[pos]! = _; rw [getElem!_pos s.data pos (by simpa using hp)]; rfl
      rw [List.drop_eq_getElem_cons hl]
      unfold idxFuncFrom
      rw [if_pos hp]
      generalize hc : s.data.toList[pos] = c at *
      by_cases h8 : c.toNat < 128
      · have hd : Utf8.decode s pos = (c.toNat, 1) := by rw [decode_at, hg]; simp [decodeN, h8]
        rw [hd]
        by_cases hb : badR c.toNat = true
        · rw [if_pos hb]
          have : prB (c :: s.data.toList.drop (pos + 1)) = false := by
            unfold badR at hb; simp only [Bool.or_eq_true, decide_eq_true_eq] at hb
            unfold prB; rw [List.all_cons, show (decide (32 ≤ c.toNat) && decide (c.toNat ≤ 126)) = false by simp; omega]; rfl
          rw [this]; simp
        · rw [if_neg hb, idx_pr s f (pos + 1) (by omega)]
          have : prB (c :: s.data.toList.drop (pos + 1)) = prB (s.data.toList.drop (pos + 1)) := by
            unfold badR at hb; simp only [Bool.or_eq_true, decide_eq_true_eq] at hb
            unfold prB; rw [List.all_cons, show (decide (32 ≤ c.toNat) && decide (c.toNat ≤ 126)) = true by simp; omega]; rfl
          rw [this]
      · have hd : 128 ≤ (Utf8.decode s pos).1 := by rw [decode_at, hg]; exact decN_hi _ _ _ _ _ (by omega)
        rw [if_pos (show badR (Utf8.decode s pos).1 = true by unfold badR; simp; omega)]
        have : prB (c :: s.data.toList.drop (pos + 1)) = false := by
          unfold prB; rw [List.all_cons, show (decide (32 ≤ c.toNat) && decide (c.toNat ≤ 126)) = false by simp; omega]; rfl
        rw [this]; simp
    · rw [List.drop_of_length_le (by simp; omega), idxFuncFrom_end _ _ _ _ _ hp]; rfl
theorem idx_prB (s : ByteArray) : (decide (0 ≤ idxFunc badR true s)) = !(prB s.data.toList) := by
  have := idx_pr s s.size 0 (by omega)
  rw [List.drop_zero] at this
  exact this
end Go.Proofs.YtdandmbgdndnjaaGreatDoor
