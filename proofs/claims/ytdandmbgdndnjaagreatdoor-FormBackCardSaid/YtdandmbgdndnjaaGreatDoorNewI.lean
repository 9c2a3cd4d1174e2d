/- Mathematics for FormBack: each statement that is written in the new form is read back. -/
import Derived.Test.YtdandmbgdndnjaaGreatDoorNewH
namespace Go.Proofs.YtdandmbgdndnjaaGreatDoor
open Go.RowKit

theorem dw_lenI (p : UInt8 → Bool) (L : List UInt8) : (L.dropWhile p).length ≤ L.length := (List.dropWhile_sublist _).length_le
/-- What isStB says of the ends of a text. -/
theorem st_ends {X : List UInt8} (h : isStB X = true) : ∃ Q R b c, X = Q ++ [c] ∧ X = b :: R ∧ c ≠ 32 ∧ c ≠ 38 ∧ b ≠ 32 ∧ b ≠ 33 ∧ Lib.trimB X 32 = X ∧ (cutP X).1 = [] ∧ foB X 0 33 = X.length ∧ foB X 0 59 = X.length ∧ X ≠ [] ∧ opB X 0 = 0 := by
  unfold isStB at h
  simp only [Bool.and_eq_true, Bool.not_eq_true', decide_eq_true_eq] at h
  obtain ⟨⟨⟨⟨⟨⟨h1, h2⟩, h3⟩, h4⟩, h5⟩, h6⟩, h7⟩ := h
  have hne : X ≠ [] := List.isEmpty_eq_false_iff.1 h1
  obtain ⟨b, R, hb⟩ := List.exists_cons_of_ne_nil hne
  have hQ := List.dropLast_concat_getLast hne
  refine ⟨X.dropLast, R, b, X.getLast hne, hQ.symm, hb, ?_, ?_, ?_, ?_, h2, List.isEmpty_iff.1 h3, h7, h6, hne, h4⟩
  · intro e
    have e2 : Lib.trimRightB X 32 = Lib.trimRightB X.dropLast 32 := by
      conv => lhs; rw [← hQ, e]
      unfold Lib.trimRightB
      rw [List.reverse_append, List.reverse_singleton, List.singleton_append, List.dropWhile_cons, if_pos (by decide)]
    have h8 := congrArg List.length h2
    unfold Lib.trimB at h8
    rw [e2] at h8
    have h9 := trimLeftB_len (Lib.trimRightB X.dropLast 32) 32
    have h10 := trimRightB_len X.dropLast 32
    have h11 : 0 < X.length := List.length_pos_iff.2 hne
    rw [List.length_dropLast] at h10
    omega
  · intro e
    have := suf_amp X.dropLast
    have e2 : X.dropLast ++ [38] = X := by rw [← e]; exact hQ
    rw [e2, h5] at this
    cases this
  · intro e
    have h8 := congrArg List.length h2
    have h10 := trimRightB_len X 32
    have h11 : 0 < X.length := List.length_pos_iff.2 hne
    unfold Lib.trimB at h8
    cases hr : Lib.trimRightB X 32 with
    | nil => rw [hr] at h8; unfold Lib.trimLeftB at h8; simp at h8; omega
    | cons d S =>
      have h12 : Lib.trimLeftB (d :: S) 32 = X := by rw [← hr]; exact h2
      have h13 : (d :: S).length ≤ X.length := by rw [← hr]; exact h10
      by_cases hd : d = 32
      · unfold Lib.trimLeftB at h12
        rw [List.dropWhile_cons, if_pos (by simp [hd])] at h12
        have h14 := dw_lenI (· == 32) S
        rw [h12] at h14
        rw [List.length_cons] at h13
        omega
      · unfold Lib.trimLeftB at h12
        rw [List.dropWhile_cons, if_neg (by simpa using hd), hb] at h12
        exact hd ((List.cons.inj h12).1.trans e)
  · intro e
    rw [hb, foB_cons, if_pos ⟨rfl, by rw [e]; rfl⟩] at h7
    cases h7

theorem dg_tests : ∀ c ∈ dgL, c ≠ 32 ∧ c ≠ 33 ∧ c ≠ 38 ∧ bh 0 c.toNat = 0 ∧ c.toNat ≠ 33 ∧ c.toNat ≠ 59 := by decide
theorem dgs_quiet (q : Nat) (hq : q = 33 ∨ q = 59) : ∀ D : List UInt8, (∀ c ∈ D, dgL.contains c = true) → foB D 0 q = D.length ∧ opB D 0 = 0
  | [], _ => ⟨rfl, rfl⟩
  | c :: D, h => by
    obtain ⟨_, _, _, h1, h2, h3⟩ := dg_tests c (List.contains_iff_mem.1 (h c List.mem_cons_self))
    obtain ⟨i1, i2⟩ := dgs_quiet q hq D (fun d hd => h d (List.mem_cons_of_mem _ hd))
    rw [foB_cons, if_neg (by rintro ⟨_, e⟩; rcases hq with rfl | rfl; exact h2 e; exact h3 e), h1, i1, List.length_cons]
    refine ⟨by omega, ?_⟩
    show opB D (bh 0 c.toNat) = 0
    rw [h1]; exact i2
/-- A statement's text behind its label. -/
def nwTx (lab : Nat) (X : List UInt8) : List UInt8 := if lab = 0 then X else Lib.decDigits lab ++ 32 :: X

/-- Each statement reads back. -/
theorem nw_one {X : List UInt8} {lab : Nat} (hs : isStB X = true) (hl : lab ≤ 99999) (sts : List St) (l k : Nat) :
    ∃ a, nwAllL (nwSt (nwTx lab X)) k (⟨sts, l, 0, 0, [], 0⟩, 0) = (⟨sts ++ [(lab, X, a)], l, 0, 0, [], 0⟩, 0) := by
  obtain ⟨Q, R, b, c, hQ, hb, c32, c38, b32, b33, ht, hc, h33, h59, hne, hop⟩ := st_ends hs
  by_cases h0 : lab = 0
  · have e : nwTx lab X = X := by unfold nwTx; rw [if_pos h0]
    obtain ⟨a, ha⟩ := nw_stmt hQ hb c32 c38 b32 b33 h33 h59 sts l k
    obtain ⟨e1, e2⟩ := enN_plain hQ hb c32 b32 hs hc sts l a
    rw [e]
    exact ⟨a, by rw [ha, e1, e2, h0]⟩
  · have e : nwTx lab X = Lib.decDigits lab ++ 32 :: X := by unfold nwTx; rw [if_neg h0]
    have hg := dec_digs lab lab (Nat.le_refl _)
    obtain ⟨d, S, hd, hd48⟩ := dec_head lab lab (Nat.le_refl _) h0
    obtain ⟨d32, d33, _, _, _, _⟩ := dg_tests d (List.contains_iff_mem.1 (hg d (by rw [hd]; exact List.mem_cons_self)))
    have hT : Lib.decDigits lab ++ 32 :: X = (Lib.decDigits lab ++ 32 :: Q) ++ [c] := by rw [hQ]; simp
    have hB : Lib.decDigits lab ++ 32 :: X = d :: (S ++ 32 :: X) := by rw [hd]; rfl
    have hX : ∀ q, q = 33 ∨ q = 59 → foB X 0 q = X.length → foB (Lib.decDigits lab ++ 32 :: X) 0 q = (Lib.decDigits lab ++ 32 :: X).length := by
      intro q hq hx
      obtain ⟨i1, i2⟩ := dgs_quiet q hq _ hg
      refine (foB_app _ _ q 0).2 ⟨i1, ?_⟩
      have hb0 : bh 0 (32 : UInt8).toNat = 0 := by decide
      rw [i2, foB_cons, if_neg (by rintro ⟨_, e⟩; rcases hq with rfl | rfl <;> exact absurd e (by decide)), hb0, hx, List.length_cons]
      omega
    have hXl : Lib.trimLeftB X 32 = X := by
      rw [hb]; unfold Lib.trimLeftB
      rw [List.dropWhile_cons, if_neg (by simpa using b32)]
    obtain ⟨a, ha⟩ := nw_stmt hT hB c32 c38 d32 d33 (hX 33 (Or.inl rfl) h33) (hX 59 (Or.inr rfl) h59) sts l k
    obtain ⟨e1, e2⟩ := enN_label hT hB c32 d32 (cutP_label hg (dec_ne lab) hXl) (dec_ne lab) (lbP_dec h0 hl) ht hne hs sts l a
    rw [e]
    exact ⟨a, by rw [ha, e1, e2]⟩
/-- All statements read back; nothing is added by the empty line behind them. -/
theorem nw_all : ∀ (ss : List (Nat × List UInt8)), (∀ s ∈ ss, isStB s.2 = true ∧ s.1 ≤ 99999) → ∀ (sts : List St) (l k : Nat),
    ∃ sts' : List St, nwAllL ((ss.flatMap fun s => nwSt (nwTx s.1 s.2)) ++ [[]]) k (⟨sts, l, 0, 0, [], 0⟩, 0) = (⟨sts ++ sts', l, 0, 0, [], 0⟩, 0) ∧ sts'.map (fun s => (s.1, s.2.1)) = ss
  | [], _, sts, l, k => ⟨[], by
      rw [List.append_nil]
      show nwStep ((⟨sts, l, 0, 0, [], 0⟩ : Ro), 0) k [] = _
      unfold nwStep
      rw [if_pos (by rfl), if_pos (Or.inl rfl)], rfl⟩
  | s :: ss, h, sts, l, k => by
    obtain ⟨h1, h2⟩ := h s List.mem_cons_self
    obtain ⟨a, ha⟩ := nw_one h1 h2 sts l k
    obtain ⟨sts', hs, hm⟩ := nw_all ss (fun x hx => h x (List.mem_cons_of_mem _ hx)) (sts ++ [(s.1, s.2, a)]) l (k + (nwSt (nwTx s.1 s.2)).length)
    refine ⟨(s.1, s.2, a) :: sts', ?_, by rw [List.map_cons, hm]⟩
    rw [List.flatMap_cons, List.append_assoc, nwAllL_app, ha, hs, List.append_assoc]
    rfl
end Go.Proofs.YtdandmbgdndnjaaGreatDoor
