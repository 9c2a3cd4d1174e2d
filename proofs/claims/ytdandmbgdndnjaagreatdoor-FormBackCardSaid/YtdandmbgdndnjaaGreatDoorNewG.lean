/- Mathematics for FormBack: what the reader of the new form makes of the lines that are written. -/
import Derived.Test.YtdandmbgdndnjaaGreatDoorNewF
namespace Go.Proofs.YtdandmbgdndnjaaGreatDoor
open Go.RowKit

theorem opB_app (A B : List UInt8) (o : Nat) : opB (A ++ B) o = opB B (opB A o) := by unfold opB; rw [List.foldl_append]
/-- A byte that stands nowhere outside of quotes, in two texts behind one another. -/
theorem foB_app (A B : List UInt8) (q : Nat) : ∀ o, foB (A ++ B) o q = (A ++ B).length ↔ foB A o q = A.length ∧ foB B (opB A o) q = B.length := by
  induction A with
  | nil => intro o; exact ⟨fun h => ⟨rfl, h⟩, fun h => h.2⟩
  | cons c A ih =>
    intro o
    have h1 := foB_le (A ++ B) (bh o c.toNat) q
    have h2 := foB_le A (bh o c.toNat) q
    rw [List.cons_append, foB_cons, foB_cons, List.length_cons, List.length_cons]
    by_cases hc : o = 0 ∧ c.toNat = q
    · rw [if_pos hc, if_pos hc]
      constructor
      · intro h; omega
      · intro h; omega
    · rw [if_neg hc, if_neg hc]
      have := ih (bh o c.toNat)
      show _ ↔ _ ∧ foB B (opB A (bh o c.toNat)) q = B.length
      constructor
      · intro h
        have h3 := this.1 (by omega)
        exact ⟨by omega, h3.2⟩
      · rintro ⟨h, h4⟩
        have h3 := this.2 ⟨by omega, h4⟩
        omega
theorem foB_amp (o q : Nat) (hq : q ≠ 38) : foB [38] o q = 1 := by
  rw [foB_cons, if_neg (fun h => hq h.2.symm)]; rfl
theorem bh_amp {o : Nat} (h : o ≠ 38) : bh o (38 : UInt8).toNat = o := by
  have e : (38 : UInt8).toNat = 38 := rfl
  unfold bh
  rw [e, if_neg h, if_neg]
  rintro ⟨_, e | e⟩ <;> exact absurd e (by decide)
theorem trimR_last (P : List UInt8) (c : UInt8) (h : c ≠ 32) : Lib.trimRightB (P ++ [c]) 32 = P ++ [c] := by
  unfold Lib.trimRightB
  rw [List.reverse_append, List.reverse_singleton, List.singleton_append, List.dropWhile_cons, if_neg (by simpa using h), List.reverse_cons, List.reverse_reverse]
theorem suf_amp (P : List UInt8) : Lib.hasSuffix (P ++ [38]) [38] = true := by
  unfold Lib.hasSuffix; rw [List.isSuffixOf_iff_suffix]; exact List.suffix_append _ _
theorem trimS_amp (P : List UInt8) : Lib.trimSuffix (P ++ [38]) [38] = P := by
  unfold Lib.trimSuffix
  rw [if_pos (suf_amp P)]
  simp
/-- A piece without a semicolon outside of quotes is added, and that is all. -/
theorem ptP_one {st : Ro} {at_ : Nat} {P : List UInt8} (h : foB P st.op 59 = P.length) : ptP st at_ P = ptAdd st at_ P := by
  rw [ptP_end (by omega), h, List.take_length]
theorem nwX_all {st : Ro} {L : List UInt8} (h : foB L st.op 33 = L.length) : nwX st L = Lib.trimRightB L 32 := by
  unfold nwX; rw [h, List.take_length]

/-- A statement's first line that goes on. -/
theorem nw_first {st : Ro} {k : Nat} {P : List UInt8} (hc : cmQ (P ++ [38]) false = false) (h1 : foB P st.op 33 = P.length) (h2 : foB P st.op 59 = P.length) :
    nwStep (st, 0) k (P ++ [38]) = (ptAdd st (k + 1) P, k + 1) := by
  have hx : nwX st (P ++ [38]) = P ++ [38] := by
    rw [nwX_all ((foB_app P [38] 33 st.op).2 ⟨h1, foB_amp _ _ (by decide)⟩), trimR_last _ _ (by decide)]
  have hD : nwD st 0 k (P ++ [38]) = ptAdd st (k + 1) P := by
    unfold nwD nwH nwT2
    rw [if_pos rfl, if_pos rfl, trimS_amp, ptP_one h2]
  show (if cmQ (P ++ [38]) false = true then _ else _) = _
  rw [if_neg (by rw [hc]; decide), hx, if_pos (suf_amp P)]
  show (nwD st 0 k (P ++ [38]), k + 1) = _
  rw [hD]

theorem jn_amp (L : List UInt8) (o : Nat) : jnT (38 :: L) o = L := by
  have e : Lib.trimLeftB (38 :: L) 32 = 38 :: L := by unfold Lib.trimLeftB; rw [List.dropWhile_cons, if_neg (by decide)]
  have hp : Lib.hasPrefix (38 :: L) [38] = true := by unfold Lib.hasPrefix; simp [List.isPrefixOf]
  unfold jnT
  rw [e, if_pos hp]
  unfold Lib.trimPrefix
  rw [if_pos hp]
  rfl
theorem jnW_amp (l a : Nat) (L : List UInt8) (o : Nat) : jnW l a (38 :: L) o = l := by
  have e : Lib.trimLeftB (38 :: L) 32 = 38 :: L := by unfold Lib.trimLeftB; rw [List.dropWhile_cons, if_neg (by decide)]
  have hp : Lib.hasPrefix (38 :: L) [38] = true := by unfold Lib.hasPrefix; simp [List.isPrefixOf]
  unfold jnW
  rw [e, if_pos hp]
theorem foB_front {L : List UInt8} {o q : Nat} (hq : q ≠ 38) (ho : o ≠ 38) (h : foB L o q = L.length) : foB (38 :: L) o q = (38 :: L).length := by
  rw [foB_cons, if_neg (fun e => hq e.2.symm), bh_amp ho, h, List.length_cons]; omega
theorem cmQ_amp (L : List UInt8) : cmQ (38 :: L) false = false := by
  unfold cmQ
  simp [ltr]

/-- A further line that goes on. -/
theorem nw_more {st : Ro} {k fr : Nat} {P : List UInt8} (hf : fr ≠ 0) (ho : st.op ≠ 38) (h1 : foB P st.op 33 = P.length) (h2 : foB P st.op 59 = P.length) :
    nwStep (st, fr) k (38 :: (P ++ [38])) = (ptAdd st (k + 1) P, k + 1) := by
  have hx : nwX st (38 :: (P ++ [38])) = 38 :: (P ++ [38]) := by
    rw [nwX_all (foB_front (by decide) ho ((foB_app P [38] 33 st.op).2 ⟨h1, foB_amp _ _ (by decide)⟩)), ← List.cons_append, trimR_last _ _ (by decide)]
  have hD : nwD st fr k (38 :: (P ++ [38])) = ptAdd st (k + 1) P := by
    unfold nwD nwH nwT2
    rw [if_neg hf, if_neg hf, jn_amp, jnW_amp, trimS_amp, ptP_one h2]
  show (if cmQ (38 :: (P ++ [38])) false = true then _ else _) = _
  rw [if_neg (by rw [cmQ_amp]; decide), hx, if_pos (by rw [← List.cons_append]; exact suf_amp _)]
  show (nwD st fr k (38 :: (P ++ [38])), k + 1) = _
  rw [hD]
theorem suf_no (Q : List UInt8) {c : UInt8} (h : c ≠ 38) : Lib.hasSuffix (Q ++ [c]) [38] = false := by
  rw [Bool.eq_false_iff]
  unfold Lib.hasSuffix
  rw [ne_eq, List.isSuffixOf_iff_suffix]
  rintro ⟨t, ht⟩
  have := congrArg List.getLast? ht
  simp at this
  exact h this.symm
theorem trimS_no (Q : List UInt8) {c : UInt8} (h : c ≠ 38) : Lib.trimSuffix (Q ++ [c]) [38] = Q ++ [c] := by
  unfold Lib.trimSuffix
  rw [if_neg (by rw [suf_no Q h]; decide)]

/-- A statement's only line. -/
theorem nw_only {st : Ro} {k : Nat} {Q : List UInt8} {c : UInt8} (h32 : c ≠ 32) (h38 : c ≠ 38) (hc : cmQ (Q ++ [c]) false = false) (h1 : foB (Q ++ [c]) st.op 33 = (Q ++ [c]).length) (h2 : foB (Q ++ [c]) st.op 59 = (Q ++ [c]).length) :
    nwStep (st, 0) k (Q ++ [c]) = (ptEnd (ptAdd st (k + 1) (Q ++ [c])), 0) := by
  have hx : nwX st (Q ++ [c]) = Q ++ [c] := by rw [nwX_all h1, trimR_last _ _ h32]
  have hD : nwD st 0 k (Q ++ [c]) = ptAdd st (k + 1) (Q ++ [c]) := by
    unfold nwD nwH nwT2
    rw [if_pos rfl, if_pos rfl, trimS_no Q h38, ptP_one h2]
  show (if cmQ (Q ++ [c]) false = true then _ else _) = _
  rw [if_neg (by rw [hc]; decide), hx, if_neg (by rw [suf_no Q h38]; decide)]
  show (ptEnd (nwD st 0 k (Q ++ [c])), 0) = _
  rw [hD]
/-- A statement's last line of several. -/
theorem nw_last {st : Ro} {k fr : Nat} {Q : List UInt8} {c : UInt8} (hf : fr ≠ 0) (ho : st.op ≠ 38) (h32 : c ≠ 32) (h38 : c ≠ 38) (h1 : foB (Q ++ [c]) st.op 33 = (Q ++ [c]).length) (h2 : foB (Q ++ [c]) st.op 59 = (Q ++ [c]).length) :
    nwStep (st, fr) k (38 :: (Q ++ [c])) = (ptEnd (ptAdd st (k + 1) (Q ++ [c])), 0) := by
  have hx : nwX st (38 :: (Q ++ [c])) = 38 :: (Q ++ [c]) := by
    rw [nwX_all (foB_front (by decide) ho h1), ← List.cons_append, trimR_last _ _ h32]
  have hD : nwD st fr k (38 :: (Q ++ [c])) = ptAdd st (k + 1) (Q ++ [c]) := by
    unfold nwD nwH nwT2
    rw [if_neg hf, if_neg hf, jn_amp, jnW_amp, trimS_no Q h38, ptP_one h2]
  show (if cmQ (38 :: (Q ++ [c])) false = true then _ else _) = _
  rw [if_neg (by rw [cmQ_amp]; decide), hx, if_neg (by rw [← List.cons_append, suf_no _ h38]; decide)]
  show (ptEnd (nwD st fr k (38 :: (Q ++ [c]))), 0) = _
  rw [hD]

/-- The same over lines that are lists of bytes. -/
def nwAllL : List (List UInt8) → Nat → Ro × Nat → Ro × Nat
  | [], _, s => s
  | x :: xs, k, s => nwAllL xs (k + 1) (nwStep s k x)
theorem nwAll_L : ∀ (xs : List ByteArray) (k : Nat) (s : Ro × Nat), nwAll xs k s = nwAllL (xs.map fun x => x.data.toList) k s
  | [], _, _ => rfl
  | x :: xs, k, s => nwAll_L xs (k + 1) (nwStep s k x.data.toList)
theorem nwAllL_app : ∀ (xs ys : List (List UInt8)) (k : Nat) (s : Ro × Nat), nwAllL (xs ++ ys) k s = nwAllL ys (k + xs.length) (nwAllL xs k s)
  | [], _, _, _ => rfl
  | x :: xs, ys, k, s => by
    show nwAllL (xs ++ ys) (k + 1) (nwStep s k x) = nwAllL ys (k + (xs.length + 1)) (nwAllL xs (k + 1) (nwStep s k x))
    rw [nwAllL_app xs ys (k + 1), show k + 1 + xs.length = k + (xs.length + 1) by omega]
/-- The further lines of a statement. -/
def nwLs (L : List UInt8) : List (List UInt8) := if 100 < L.length then (38 :: (L.take 100 ++ [38])) :: nwLs (L.drop 100) else [38 :: L]
  termination_by L.length
  decreasing_by rw [List.length_drop]; omega
theorem nwLs_go {L : List UInt8} (h : 100 < L.length) : nwLs L = (38 :: (L.take 100 ++ [38])) :: nwLs (L.drop 100) := by rw [nwLs, if_pos h]
theorem nwLs_end {L : List UInt8} (h : ¬ 100 < L.length) : nwLs L = [38 :: L] := by rw [nwLs, if_neg h]
theorem opB_ne (L : List UInt8) : ∀ o, (o = 0 ∨ o = 34 ∨ o = 39) → (opB L o = 0 ∨ opB L o = 34 ∨ opB L o = 39) := by
  induction L with
  | nil => intro o h; exact h
  | cons c L ih =>
    intro o h
    refine ih (bh o c.toNat) ?_
    unfold bh
    split
    · exact Or.inl rfl
    · split
      · omega
      · exact h
theorem nw_rest : ∀ (n : Nat) (L Q : List UInt8) (c : UInt8) (st : Ro) (k fr : Nat), L.length ≤ n → L = Q ++ [c] → c ≠ 32 → c ≠ 38 → fr ≠ 0 → (st.op = 0 ∨ st.op = 34 ∨ st.op = 39) → foB L st.op 33 = L.length → foB L st.op 59 = L.length →
    ∃ a, nwAllL (nwLs L) k (st, fr) = (ptEnd ⟨st.sts, st.l, st.lab, a, st.tx ++ L, opB L st.op⟩, 0)
  | 0, L, Q, c, st, k, fr, hn, hL, _, _, _, _, _, _ => by rw [hL] at hn; simp at hn
  | n + 1, L, Q, c, st, k, fr, hn, hL, h32, h38, hf, ho, h1, h2 => by
    have ho38 : st.op ≠ 38 := by omega
    by_cases h : 100 < L.length
    · have e : L.take 100 ++ L.drop 100 = L := List.take_append_drop 100 L
      have g1 := (foB_app (L.take 100) (L.drop 100) 33 st.op).1 (by rw [e]; exact h1)
      have g2 := (foB_app (L.take 100) (L.drop 100) 59 st.op).1 (by rw [e]; exact h2)
      have hQ : 100 ≤ Q.length := by rw [hL] at h; simp at h; omega
      have hd : L.drop 100 = Q.drop 100 ++ [c] := by rw [hL, List.drop_append_of_le_length hQ]
      rw [nwLs_go h]
      show ∃ a, nwAllL (nwLs (L.drop 100)) (k + 1) (nwStep (st, fr) k (38 :: (L.take 100 ++ [38]))) = _
      rw [nw_more hf ho38 g1.1 g2.1]
      obtain ⟨a, ha⟩ := nw_rest n (L.drop 100) (Q.drop 100) c (ptAdd st (k + 1) (L.take 100)) (k + 1) (k + 1) (by rw [List.length_drop]; omega) hd h32 h38 (by omega) (opB_ne _ _ ho) g1.2 g2.2
      refine ⟨a, ha.trans ?_⟩
      show (ptEnd ⟨st.sts, st.l, st.lab, a, (st.tx ++ L.take 100) ++ L.drop 100, opB (L.drop 100) (opB (L.take 100) st.op)⟩, 0) = _
      rw [List.append_assoc, e, ← opB_app, e]
    · rw [nwLs_end h]
      show ∃ a, nwStep (st, fr) k (38 :: L) = _
      rw [hL] at h1 h2 ⊢
      rw [nw_last hf ho38 h32 h38 h1 h2]
      exact ⟨_, rfl⟩
theorem cmQ_head {b : UInt8} (R : List UInt8) (h32 : b ≠ 32) (h33 : b ≠ 33) : cmQ (b :: R) false = false := by
  have e : ¬ b.toNat = 33 := fun e => h33 (UInt8.toNat_inj.1 e)
  unfold cmQ
  simp [ltr, h32, e]
/-- All lines of a statement. -/
def nwSt (T : List UInt8) : List (List UInt8) := if 100 < T.length then (T.take 100 ++ [38]) :: nwLs (T.drop 100) else [T]
theorem nw_stmt {T Q R : List UInt8} {b c : UInt8} (hT : T = Q ++ [c]) (hb : T = b :: R) (h32 : c ≠ 32) (h38 : c ≠ 38) (b32 : b ≠ 32) (b33 : b ≠ 33) (h1 : foB T 0 33 = T.length) (h2 : foB T 0 59 = T.length) (sts : List St) (l k : Nat) :
    ∃ a, nwAllL (nwSt T) k (⟨sts, l, 0, 0, [], 0⟩, 0) = (⟨enNS sts 0 a T, enNW l 0 a T, 0, 0, [], 0⟩, 0) := by
  by_cases h : 100 < T.length
  · have e : T.take 100 ++ T.drop 100 = T := List.take_append_drop 100 T
    have g1 := (foB_app (T.take 100) (T.drop 100) 33 0).1 (by rw [e]; exact h1)
    have g2 := (foB_app (T.take 100) (T.drop 100) 59 0).1 (by rw [e]; exact h2)
    have hQ : 100 ≤ Q.length := by rw [hT] at h; simp at h; omega
    have hd : T.drop 100 = Q.drop 100 ++ [c] := by rw [hT, List.drop_append_of_le_length hQ]
    have hc : cmQ (T.take 100 ++ [38]) false = false := by
      rw [hb, List.take_succ_cons, List.cons_append]
      exact cmQ_head _ b32 b33
    unfold nwSt
    rw [if_pos h]
    show ∃ a, nwAllL (nwLs (T.drop 100)) (k + 1) (nwStep ((⟨sts, l, 0, 0, [], 0⟩ : Ro), 0) k (T.take 100 ++ [38])) = _
    rw [nw_first hc g1.1 g2.1]
    obtain ⟨a, ha⟩ := nw_rest (T.drop 100).length (T.drop 100) (Q.drop 100) c (ptAdd ⟨sts, l, 0, 0, [], 0⟩ (k + 1) (T.take 100)) (k + 1) (k + 1) (Nat.le_refl _) hd h32 h38 (by omega) (opB_ne _ _ (Or.inl rfl)) g1.2 g2.2
    refine ⟨a, ha.trans ?_⟩
    show ((⟨enNS sts 0 a (([] ++ T.take 100) ++ T.drop 100), enNW l 0 a (([] ++ T.take 100) ++ T.drop 100), 0, 0, [], 0⟩ : Ro), 0) = _
    rw [List.nil_append, e]
  · unfold nwSt
    rw [if_neg h]
    show ∃ a, nwStep ((⟨sts, l, 0, 0, [], 0⟩ : Ro), 0) k T = _
    have hc : cmQ T false = false := by rw [hb]; exact cmQ_head _ b32 b33
    rw [hT] at h1 h2 hc ⊢
    rw [nw_only h32 h38 hc h1 h2]
    exact ⟨_, rfl⟩
theorem trimB_both {T Q R : List UInt8} {b c : UInt8} (hT : T = Q ++ [c]) (hb : T = b :: R) (h32 : c ≠ 32) (b32 : b ≠ 32) : Lib.trimB T 32 = T := by
  unfold Lib.trimB
  rw [hT, trimR_last _ _ h32, ← hT, hb]
  unfold Lib.trimLeftB
  rw [List.dropWhile_cons, if_neg (by simpa using b32)]
/-- A statement without a label: what its end leaves. -/
theorem enN_plain {T Q R : List UInt8} {b c : UInt8} (hT : T = Q ++ [c]) (hb : T = b :: R) (h32 : c ≠ 32) (b32 : b ≠ 32) (hs : isStB T = true) (hc : (cutP T).1 = []) (sts : List St) (l a : Nat) :
    enNS sts 0 a T = sts ++ [(0, T, a)] ∧ enNW l 0 a T = l := by
  have e := trimB_both hT hb h32 b32
  have e1 : nwL 0 T = 0 := by unfold nwL; rw [e, hc]; rfl
  have e2 : nwT T = T := by unfold nwT; rw [e, hc]; rfl
  have e3 : nwW l a T = l := by unfold nwW; rw [e, hc]; rfl
  have e4 : T.isEmpty = false := by rw [hb]; rfl
  constructor
  · unfold enNS enS
    rw [e1, e2, e, e4, if_neg (by decide), if_pos hs]
  · unfold enNW enW
    rw [e1, e2, e3, e, e4, if_neg (by decide), if_pos hs]
/-- A statement behind its label: what its end leaves. -/
theorem enN_label {T X Q R D : List UInt8} {b c : UInt8} {n : Nat} (hT : T = Q ++ [c]) (hb : T = b :: R) (h32 : c ≠ 32) (b32 : b ≠ 32) (hc : cutP T = (D, X)) (hD : D ≠ []) (hl : lbP D = some (n : Int)) (hx : Lib.trimB X 32 = X) (hn : X ≠ []) (hs : isStB X = true) (sts : List St) (l a : Nat) :
    enNS sts 0 a T = sts ++ [(n, X, a)] ∧ enNW l 0 a T = l := by
  have e := trimB_both hT hb h32 b32
  have hD2 : ¬ D.isEmpty = true := by rw [List.isEmpty_iff]; exact hD
  have e1 : nwL 0 T = n := by unfold nwL; rw [e, hc, if_neg hD2, hl]; rfl
  have e2 : nwT T = X := by unfold nwT; rw [e, hc, if_neg hD2]
  have e3 : nwW l a T = l := by unfold nwW; rw [e, hc, if_neg hD2, hl]
  have e4 : X.isEmpty = false := by rw [List.isEmpty_eq_false_iff]; exact hn
  constructor
  · unfold enNS enS
    rw [e1, e2, hx, e4, if_neg (by simp), if_pos hs]
  · unfold enNW enW
    rw [e1, e2, e3, hx, e4, if_neg (by simp), if_pos hs]
end Go.Proofs.YtdandmbgdndnjaaGreatDoor
