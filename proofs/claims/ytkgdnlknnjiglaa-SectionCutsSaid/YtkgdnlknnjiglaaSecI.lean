/- What Cut gives, in plain words; two slices of the call's own, apart from each other. -/
import Derived.Test.YtkgdnlknnjiglaaSecH
namespace Go.Proofs.Ytkgdnlknnjiglaa
open Go.RowKit

/-- A subscript out of its bounds. -/
def cutBad (s : SB) (e : Int) : Bool := decide (0 < nS s) && !(subB (fS s) e && subB (lS s) e)
def cutStep (sz : Bool) (s : SB) (t : Int) (a : DS) : DS :=
  ⟨if sz = true then a.b + fS s * t else a.b, if s.is = true then a.ex else a.ex ++ [nS s], if s.is = true then a.st else a.st ++ [if 1 < nS s then t * s.st else t]⟩
def cutGo (sz : Bool) : List SB → List Int → List Int → DS → Option DS
  | s :: S, e :: E, t :: T, a => if cutBad s e = true then none else cutGo sz S E T (cutStep sz s t a)
  | _, _, _, a => some a
def cutOk (d : DS) (S : List SB) : Bool := vldB d && decide (S.length = d.ex.length) && S.all okS
def cutO (d : DS) (S : List SB) : Option DS := cutGo (decide (0 < pr d.ex)) S d.ex d.st ⟨d.b, [], []⟩
def cutD (d : DS) (S : List SB) : DS := if cutOk d S = true then (cutO d S).getD ⟨0, [], []⟩ else ⟨0, [], []⟩
def cutE (d : DS) (S : List SB) : Int := if cutOk d S = true then (if (cutO d S).isNone = true then 92 else 0) else 2
theorem cut_no {d : DS} {S : List SB} (h : cutOk d S = false) : cutD d S = ⟨0, [], []⟩ ∧ cutE d S = 2 := by unfold cutD cutE; rw [h]; exact ⟨rfl, rfl⟩
theorem cut_bad {d : DS} {S : List SB} (h : cutOk d S = true) (h2 : cutO d S = none) : cutD d S = ⟨0, [], []⟩ ∧ cutE d S = 92 := by unfold cutD cutE; rw [h, h2]; exact ⟨rfl, rfl⟩
theorem cut_yes {d a : DS} {S : List SB} (h : cutOk d S = true) (h2 : cutO d S = some a) : cutD d S = a ∧ cutE d S = 0 := by unfold cutD cutE; rw [h, h2]; exact ⟨rfl, rfl⟩
theorem cutGo_step {sz : Bool} {S : List SB} {E T : List Int} {a : DS} {k : Nat} {s : SB} {e t : Int} (h1 : S[k]? = some s) (h2 : E[k]? = some e) (h3 : T[k]? = some t) :
    cutGo sz (S.drop k) (E.drop k) (T.drop k) a = if cutBad s e = true then none else cutGo sz (S.drop (k + 1)) (E.drop (k + 1)) (T.drop (k + 1)) (cutStep sz s t a) := by
  obtain ⟨l1, e1⟩ := List.getElem?_eq_some_iff.1 h1
  obtain ⟨l2, e2⟩ := List.getElem?_eq_some_iff.1 h2
  obtain ⟨l3, e3⟩ := List.getElem?_eq_some_iff.1 h3
  rw [List.drop_eq_getElem_cons l1, List.drop_eq_getElem_cons l2, List.drop_eq_getElem_cons l3, e1, e2, e3]
  rfl
theorem cutGo_end {sz : Bool} {S : List SB} {E T : List Int} {a : DS} {k : Nat} (h : S.length ≤ k) : cutGo sz (S.drop k) (E.drop k) (T.drop k) a = some a := by
  rw [List.drop_of_length_le h]; rfl
theorem cutGo_start (d : DS) (S : List SB) : cutGo (decide (0 < pr d.ex)) (S.drop 0) (d.ex.drop 0) (d.st.drop 0) ⟨d.b, [], []⟩ = cutO d S := by
  rw [List.drop_zero, List.drop_zero, List.drop_zero]; rfl
/-- What the first member and the number of a subscript are, where it is in bounds. -/
theorem good_bd {s : SB} {e : Int} (h : okS s = true) (hb : cutBad s e = false) (he : 0 ≤ e) : (0 ≤ fS s ∧ fS s ≤ e) ∧ 0 ≤ nS s ∧ nS s ≤ 6442450944 := by
  obtain ⟨is, one, lo, hi, st⟩ := s
  unfold cutBad nS fS lS at *
  cases is
  · have ht : triB lo hi st = true := by simpa [okS] using h
    have hc := cnt_bd ht
    simp only [Bool.false_eq_true, if_false] at hb ⊢
    by_cases h0 : cnt lo hi st = 0
    · rw [if_pos h0]; omega
    · rw [if_neg h0, if_neg h0, decide_eq_true (show 0 < cnt lo hi st by omega)] at hb
      rw [if_neg h0]
      simp only [Bool.true_and, Bool.not_eq_false', Bool.and_eq_true] at hb
      have := sub_iff.1 hb.1
      omega
  · simp only [if_true] at hb ⊢
    simp [subB] at hb
    omega
theorem OW.kept {w w' : World} {B : Nat} {v : Value} {l : List Int} {row : Option Nat} (h : OW w B v l) (hg : w.grownBy w' row) (hne : ∀ g, v.ownBlock = some g → row ≠ some g) : OW w' B v l :=
  ⟨h.1.kept hg (by
    rcases hv : v.ownBlock with _ | k
    · exact .inl rfl
    · exact .inr (fun e => hne k hv e.symm)), h.2⟩
/-- Two slices of the call's own, apart from each other. -/
def TW (w : World) (B : Nat) (u v : Value) (l m : List Int) : Prop := OW w B u l ∧ OW w B v m ∧ ∀ g, u.ownBlock = some g → v.ownBlock ≠ some g
theorem TW.swap {w : World} {B : Nat} {u v : Value} {l m : List Int} (h : TW w B u v l m) : TW w B v u m l := ⟨h.2.1, h.1, fun g h1 h2 => h.2.2 g h2 h1⟩
theorem TW.keep {w w' : World} {B : Nat} {u v : Value} {l m : List Int} (h : TW w B u v l m) (hb : Below w.heap.size w w') : TW w' B u v l m := ⟨h.1.keep hb, h.2.1.keep hb, h.2.2⟩
theorem TW.alloc {w : World} {B : Nat} {u v : Value} {l m : List Int} (h : TW w B u v l m) (o : Obj) : TW (w.alloc o) B u v l m := ⟨h.1.alloc o, h.2.1.alloc o, h.2.2⟩
theorem TW.far {w : World} {B n i : Nat} {u v x : Value} {l m : List Int} (h : TW w B u v l m) (hn : n < B) : TW (w.setCell ⟨n, i, none⟩ x) B u v l m := ⟨h.1.far hn, h.2.1.far hn, h.2.2⟩
theorem TW.app {w w' : World} {B : Nat} {u v u' : Value} {l m l' : List Int} (h : TW w B u v l m) (h1 : OW w' B u' l') (h2 : w.grownBy w' u.ownBlock) (h3 : u'.ownBlock = u.ownBlock ∨ u'.ownBlock = some w.heap.size) : TW w' B u' v l' m := by
  refine ⟨h1, h.2.1.kept h2 (fun g hg e => h.2.2 g e hg), fun g hg e => ?_⟩
  rcases h3 with h3 | h3
  · exact h.2.2 g (h3 ▸ hg) e
  · rw [h3] at hg
    have := (h.2.1.lt g e).2
    have : w.heap.size = g := by simpa using hg
    omega
theorem TW.nil (w : World) (B : Nat) : TW w B (.slice none 0 0) (.slice none 0 0) [] [] := ⟨OW.nil _ _, OW.nil _ _, fun g h => by simp [Value.ownBlock] at h⟩
theorem mul_far {x y : Int} (h0 : -2147483648 ≤ x) (h1 : x ≤ 2147483648) (h2 : -2147483648 ≤ y) (h3 : y ≤ 2147483648) : -4611686018427387904 ≤ x * y ∧ x * y ≤ 4611686018427387904 := by
  have key : ∀ a b : Int, 0 ≤ a → a ≤ 2147483648 → -2147483648 ≤ b → b ≤ 2147483648 → -4611686018427387904 ≤ a * b ∧ a * b ≤ 4611686018427387904 := by
    intro a b ha0 ha1 hb0 hb1
    rcases Int.le_total 0 b with hs | hs
    · have p := Int.mul_nonneg ha0 hs
      have q := Int.mul_le_mul ha1 hb1 hs (by decide)
      omega
    · have p := Int.mul_nonpos_of_nonneg_of_nonpos ha0 hs
      have q := Int.mul_le_mul ha1 (show -b ≤ 2147483648 by omega) (by omega) (by decide)
      rw [Int.mul_neg] at q
      omega
  rcases Int.le_total 0 x with hx | hx
  · exact key x y hx h1 h2 h3
  · have := key (-x) y (by omega) (by omega) h2 h3
    rw [Int.neg_mul] at this
    omega
theorem TW.slices {w : World} {B n m : Nat} {u v : Value} {l k : List Int} (h : TW w B u v l k) (h1 : l.length = n) (h2 : k.length = m) : ∃ A c A' c', u = .slice A n c ∧ v = .slice A' m c' := by
  subst h1; subst h2
  obtain ⟨A, c, e⟩ := h.1.ri.slice
  obtain ⟨A', c', e'⟩ := h.2.1.ri.slice
  exact ⟨A, c, A', c', e, e'⟩
theorem RI.oneN (w : World) (x : Int) (n : Nat) (hx : Fit x) (t : TypeId) (hn : w.heap.size = n) : RI (w.alloc (.cells #[.int .i64 x] t)) (.slice (some ⟨n, 0, none⟩) 1 1) [x] := by
  subst hn; exact RI.one w x hx t
/-- The relation at the head of Cut's loop. -/
def CRel (d : DS) (S : List SB) (nb : Nat) (w0 : World) (x : Value) (wr : World) : Prop :=
  ∃ (k : Nat) (a : DS) (A1 A2 : Option Addr) (c1 c2 : Nat), k ≤ S.length ∧ x = .int .i64 (k : Int) ∧ cutGo (decide (0 < pr d.ex)) (S.drop k) (d.ex.drop k) (d.st.drop k) a = cutO d S ∧
    Has wr nb [.int .i64 a.b, .slice A1 a.ex.length c1, .slice A2 a.st.length c2] ∧ TW wr (nb + 1) (.slice A1 a.ex.length c1) (.slice A2 a.st.length c2) a.ex a.st ∧ a.ex.length ≤ k ∧ a.st.length ≤ k ∧
    Fit a.b ∧ (0 < pr d.ex → -(k : Int) * 8589934592000 ≤ a.b ∧ a.b ≤ 2147483648 + k * 8589934592000) ∧ Below nb w0 wr ∧ nb < wr.heap.size
theorem resD29 (tm : Array Value) (R : Nat) (a b c : Value) (n : Int) (w : World) (hp : tm[4]?.getD undef = .pointer (some ⟨R, 0, none⟩)) (h5 : tm[5]?.getD undef = .int .i64 n) (h : Has w R [a, b, c]) :
    (results Try.f29 tm).run Try.prog w = .ok (.tuple #[.agg #[a, b, c], .int .i64 n]) w := by
  obtain ⟨h0, h1, h2⟩ := h.c3
  simp [results, Try.results29, go_sem, hp, h5, h0, h1, h2]
end Go.Proofs.Ytkgdnlknnjiglaa
