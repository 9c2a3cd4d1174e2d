/- The reader of the new form: what its lines leave, and its bounds. -/
import Derived.Test.YtdandmbgdndnjaaGreatDoorNewC
namespace Go.Proofs.YtdandmbgdndnjaaGreatDoor
open Go.RowKit

/-- What part leaves is bounded. -/
theorem ptP_bd (N at_ : Nat) (hat : at_ ≤ N) : ∀ (n : Nat) (t : List UInt8) (st : Ro), t.length ≤ n → st.l ≤ N → st.at_ ≤ N → st.op < 256 →
    (ptP st at_ t).l ≤ N ∧ (ptP st at_ t).at_ ≤ N ∧ (ptP st at_ t).op < 256 ∧ (ptP st at_ t).sts.length ≤ st.sts.length + t.length ∧ (ptP st at_ t).tx.length ≤ st.tx.length + t.length
  | 0, t, st, ht, hl, ha, ho => by
    have h0 : t = [] := List.length_eq_zero_iff.1 (by omega)
    subst h0
    rw [ptP_end (by have := foB_le [] st.op 59; omega)]
    refine ⟨hl, ?_, opB_lt _ _ ho, by simp [ptAdd], by simp [ptAdd]⟩
    show (if _ then at_ else st.at_) ≤ N
    split <;> assumption
  | n + 1, t, st, ht, hl, ha, ho => by
    have hf := foB_le t st.op 59
    have ha2 : (ptAdd st at_ (t.take (foB t st.op 59))).at_ ≤ N := by
      show (if _ then at_ else st.at_) ≤ N
      split <;> assumption
    by_cases h : foB t st.op 59 < t.length
    · rw [ptP_go h]
      obtain ⟨h1, h2, h3, h4, h5⟩ := ptP_bd N at_ hat n (t.drop (foB t st.op 59 + 1)) (ptEnd (ptAdd st at_ (t.take (foB t st.op 59)))) (by rw [List.length_drop]; omega) (enNW_le hl ha2) (Nat.zero_le _) (show 0 < 256 by decide)
      have h6 := enNS_len (ptAdd st at_ (t.take (foB t st.op 59))).sts (ptAdd st at_ (t.take (foB t st.op 59))).lab (ptAdd st at_ (t.take (foB t st.op 59))).at_ (ptAdd st at_ (t.take (foB t st.op 59))).tx
      refine ⟨h1, h2, h3, Nat.le_trans h4 ?_, Nat.le_trans h5 ?_⟩
      · rw [List.length_drop]
        have : (ptAdd st at_ (t.take (foB t st.op 59))).sts = st.sts := rfl
        rw [this] at h6
        have e : (ptEnd (ptAdd st at_ (t.take (foB t st.op 59)))).sts = enNS st.sts (ptAdd st at_ (t.take (foB t st.op 59))).lab (ptAdd st at_ (t.take (foB t st.op 59))).at_ (ptAdd st at_ (t.take (foB t st.op 59))).tx := rfl
        rw [e]
        omega
      · rw [List.length_drop]
        show 0 + _ ≤ _
        omega
    · rw [ptP_end h]
      refine ⟨hl, ha2, opB_lt _ _ ho, by simp [ptAdd], ?_⟩
      show (st.tx ++ t.take _).length ≤ _
      rw [List.length_append, List.length_take]
      omega

/-- The sizes of lines, with two bytes for each line. -/
def wt (xs : List ByteArray) : Nat := (xs.map fun x => x.size + 2).sum
theorem wt_at {xs : List ByteArray} {x : ByteArray} {k : Nat} (h : xs[k]? = some x) : wt (xs.drop k) = x.size + 2 + wt (xs.drop (k + 1)) := by
  obtain ⟨hk, rfl⟩ := List.getElem?_eq_some_iff.1 h
  unfold wt
  rw [List.drop_eq_getElem_cons hk, List.map_cons, List.sum_cons]

/-- A line's text without its comment and the blanks at its end, and whether it goes on. -/
def nwX (st : Ro) (L : List UInt8) : List UInt8 := Lib.trimRightB (L.take (foB L st.op 33)) 32
/-- A draft with what a line's head leaves: a line that goes on may be wrong. -/
def nwH (st : Ro) (fr k : Nat) (X : List UInt8) : Ro := if fr = 0 then st else ⟨st.sts, jnW st.l (k + 1) X st.op, st.lab, st.at_, st.tx, st.op⟩
def nwT2 (st : Ro) (fr : Nat) (X : List UInt8) : List UInt8 := if fr = 0 then X else jnT X st.op
def nwD (st : Ro) (fr k : Nat) (X : List UInt8) : Ro := ptP (nwH st fr k X) (k + 1) (Lib.trimSuffix (nwT2 st fr X) [38])
def nwStep (s : Ro × Nat) (k : Nat) (L : List UInt8) : Ro × Nat :=
  if cmQ L false = true then (if s.2 = 0 ∨ s.1.op = 0 then s else (⟨s.1.sts, wrN s.1.l (k + 1), s.1.lab, s.1.at_, s.1.tx, s.1.op⟩, s.2))
  else if Lib.hasSuffix (nwX s.1 L) [38] = true then (nwD s.1 s.2 k (nwX s.1 L), k + 1) else (ptEnd (nwD s.1 s.2 k (nwX s.1 L)), 0)
def nwAll : List ByteArray → Nat → Ro × Nat → Ro × Nat
  | [], _, s => s
  | x :: xs, k, s => nwAll xs (k + 1) (nwStep s k x.data.toList)
theorem nwAll_at {xs : List ByteArray} {x : ByteArray} {k : Nat} {s : Ro × Nat} (h : xs[k]? = some x) : nwAll (xs.drop k) k s = nwAll (xs.drop (k + 1)) (k + 1) (nwStep s k x.data.toList) := by
  obtain ⟨hk, rfl⟩ := List.getElem?_eq_some_iff.1 h
  rw [List.drop_eq_getElem_cons hk]
  rfl
/-- What is left behind all lines. -/
def nwEnd (s : Ro × Nat) : Ro := if s.2 = 0 then s.1 else ptEnd ⟨s.1.sts, wrN s.1.l s.2, s.1.lab, s.1.at_, s.1.tx, s.1.op⟩
theorem trimRightB_len (L : List UInt8) (c : UInt8) : (Lib.trimRightB L c).length ≤ L.length := by
  unfold Lib.trimRightB
  rw [List.length_reverse]
  exact Nat.le_trans (List.dropWhile_sublist _).length_le (by rw [List.length_reverse]; exact Nat.le_refl _)
theorem trimSuffix_len (L p : List UInt8) : (Lib.trimSuffix L p).length ≤ L.length := by
  unfold Lib.trimSuffix
  split
  · rw [List.length_take]; omega
  · exact Nat.le_refl _
theorem nwX_len (st : Ro) (L : List UInt8) : (nwX st L).length ≤ L.length := by
  have := trimRightB_len (L.take (foB L st.op 33)) 32
  rw [List.length_take] at this
  unfold nwX
  omega
theorem nwT2_len (st : Ro) (fr : Nat) (X : List UInt8) : (nwT2 st fr X).length ≤ X.length + 1 := by
  unfold nwT2
  split
  · omega
  · exact jnT_len X st.op
end Go.Proofs.YtdandmbgdndnjaaGreatDoor
