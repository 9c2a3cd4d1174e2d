/- Mathematics of what is written of tokens: a text in quotes reads back, and so does a list of valid tokens with blanks between; doubling the quotes by the library. -/
import Derived.Test.YtcafnpfhjiaolaaDoorTokQ
import Derived.Test.YtcafnpfhjiaolaaDoorRefF
import Derived.Shelf.Strings.Replace
import Derived.Lib.Join
namespace Go.Proofs.YtcafnpfhjiaolaaDoor
open Go.RowKit

/-- A text with each quote doubled. -/
def dbl (l : List UInt8) : List UInt8 := l.flatMap fun c => if c = 39 then [39, 39] else [c]
/-- What is written of a token. -/
def wr (t : Tok) : List UInt8 := if t.1 = kText then 39 :: (dbl t.2 ++ [39]) else t.2
/-- Which tokens are valid. -/
def vP (t : Tok) : Bool := if t.1 = kText then t.2.all (fun c => cOk c.toNat) else decide (scanP t.2 = ([t], 0, 0))

theorem dbl_cons (c : UInt8) (l : List UInt8) : dbl (c :: l) = (if c = 39 then [39, 39] else [c]) ++ dbl l := rfl
theorem dbl_app (a b : List UInt8) : dbl (a ++ b) = dbl a ++ dbl b := by unfold dbl; simp
theorem dbl_none {a : List UInt8} (h : (39 : UInt8) ∉ a) : dbl a = a := by
  induction a with
  | nil => rfl
  | cons c a ih =>
    simp only [List.mem_cons, not_or] at h
    rw [dbl_cons, ih h.2, if_neg (Ne.symm h.1)]; rfl
theorem dbl_len (a : List UInt8) : (dbl a).length ≤ 2 * a.length := by
  induction a with
  | nil => exact Nat.le_refl _
  | cons c a ih => rw [dbl_cons, List.length_append, List.length_cons]; split <;> simp <;> omega
theorem dbl_ok (a : List UInt8) : (dbl a).all (fun c => cOk c.toNat) = a.all (fun c => cOk c.toNat) := by
  induction a with
  | nil => rfl
  | cons c a ih =>
    rw [dbl_cons, List.all_append, ih, List.all_cons]
    by_cases h : c = 39
    · subst h; rfl
    · rw [if_neg h]; simp
theorem idx_q (s : List UInt8) : (Lib.index s [39] = -1 ∧ (39 : UInt8) ∉ s) ∨ ∃ a r : List UInt8, s = a ++ 39 :: r ∧ (39 : UInt8) ∉ a ∧ Lib.index s [39] = (a.length : Int) := by
  induction s with
  | nil => exact .inl ⟨rfl, by simp⟩
  | cons c s ih =>
    by_cases h : c = 39
    · subst h
      exact .inr ⟨[], s, rfl, by simp, by simp [Lib.index]⟩
    · have hp : List.isPrefixOf [39] (c :: s) = false := by simp [List.isPrefixOf, Ne.symm h]
      rcases ih with ⟨h1, h2⟩ | ⟨a, r, h1, h2, h3⟩
      · exact .inl ⟨by unfold Lib.index; rw [hp, h1]; rfl, by simp [Ne.symm h, h2]⟩
      · refine .inr ⟨c :: a, r, by rw [h1]; rfl, by simp [Ne.symm h, h2], ?_⟩
        unfold Lib.index
        rw [hp, h3]
        have : ((a.length : Int) == -1) = false := by rw [beq_eq_false_iff_ne]; omega
        simp [this]
theorem rep_q (k : Nat) : ∀ s : List UInt8, s.count 39 ≤ k → Lib.replaceK [39] [39, 39] k s = dbl s := by
  induction k with
  | zero =>
    intro s h
    have : (39 : UInt8) ∉ s := List.count_eq_zero.1 (by omega)
    rw [Lib.replaceK, dbl_none this]
  | succ k ih =>
    intro s h
    rcases idx_q s with ⟨h1, h2⟩ | ⟨a, r, h1, h2, h3⟩
    · rw [Lib.replaceK, h1, dbl_none h2]; rfl
    · rw [Lib.replaceK_hit _ _ _ _ _ h3, h1]
      have h4 : r.count 39 ≤ k := by
        rw [h1, List.count_append, List.count_cons_self] at h
        omega
      rw [show (a ++ 39 :: r).drop (a.length + [(39 : UInt8)].length) = r by rw [← List.drop_drop, List.drop_left]; rfl, List.take_left, ih r h4, dbl_app, dbl_cons, if_pos rfl, dbl_none h2, List.append_assoc]
theorem cnt_q (f : Nat) : ∀ s : List UInt8, s.length < f → Lib.countFrom [39] f s = s.count 39 := by
  induction f with
  | zero => intro s h; omega
  | succ f ih =>
    intro s h
    rcases idx_q s with ⟨h1, h2⟩ | ⟨a, r, h1, h2, h3⟩
    · rw [Lib.countFrom, h1, List.count_eq_zero.2 h2]; rfl
    · have hm : ((a.length : Int) == -1) = false := by rw [beq_eq_false_iff_ne]; omega
      have hr : r.length < f := by rw [h1, List.length_append, List.length_cons] at h; omega
      rw [Lib.countFrom, h3, hm, h1]
      simp only [Bool.false_eq_true, if_false, Int.toNat_natCast]
      rw [show (a ++ 39 :: r).drop (a.length + [(39 : UInt8)].length) = r by rw [← List.drop_drop, List.drop_left]; rfl, ih r hr, List.count_append, List.count_cons_self, List.count_eq_zero.2 h2]
      omega
theorem count_q (s : List UInt8) : Lib.count s [39] = s.count 39 := cnt_q _ s (Nat.lt_succ_self _)
theorem replace_q (s : List UInt8) : Lib.replaceAll s [39] [39, 39] = dbl s := by
  unfold Lib.replaceAll Lib.replace
  rw [if_neg (by decide)]
  apply rep_q
  unfold Lib.replaceNum
  rw [if_pos (Or.inl (by decide)), count_q]
  exact Nat.le_refl _

theorem bt_mid (a r : List UInt8) (c : UInt8) : bt (a ++ c :: r) a.length = c.toNat := by
  have := bt_app_r a (c :: r) 0
  rw [Nat.add_zero] at this
  rw [this]; rfl
theorem quo_dbl (x : List UInt8) : ∀ (p k : List UInt8), quoP (p ++ (dbl x ++ [39])) 39 p.length k = some (k ++ x, p.length + (dbl x).length + 1) := by
  induction x with
  | nil =>
    intro p k
    have h1 : bt (p ++ [39]) p.length = 39 := bt_mid p [] 39
    have h2 : bt (p ++ [39]) (p.length + 1) ≠ 39 := by rw [bt_out (by simp)]; decide
    have := quo_end (L := p ++ [39]) (k := k) (by simp) h1 h2
    simpa [dbl] using this
  | cons c x ih =>
    intro p k
    by_cases h : c = 39
    · subst h
      have e : p ++ (dbl (39 :: x) ++ [39]) = (p ++ [39, 39]) ++ (dbl x ++ [39]) := by rw [dbl_cons, if_pos rfl]; simp
      have e1 : p ++ (dbl (39 :: x) ++ [39]) = p ++ 39 :: (39 :: (dbl x ++ [39])) := by rw [dbl_cons, if_pos rfl]; simp
      have e2 : p ++ (dbl (39 :: x) ++ [39]) = (p ++ [39]) ++ 39 :: (dbl x ++ [39]) := by rw [dbl_cons, if_pos rfl]; simp
      have h1 : bt (p ++ (dbl (39 :: x) ++ [39])) p.length = 39 := by rw [e1]; exact bt_mid _ _ _
      have h2 : bt (p ++ (dbl (39 :: x) ++ [39])) (p.length + 1) = 39 := by
        rw [e2]
        have := bt_mid (p ++ [39]) (dbl x ++ [39]) 39
        rwa [List.length_append] at this
      rw [quo_two (by rw [e1]; simp) h1 h2, e]
      have := ih (p ++ [39, 39]) (k ++ [(39 : Nat).toUInt8])
      have hl2 : (p ++ [(39 : UInt8), 39]).length = p.length + 2 := by simp
      rw [hl2] at this
      rw [this, dbl_cons, if_pos rfl]
      simp
      omega
    · have e : p ++ (dbl (c :: x) ++ [39]) = (p ++ [c]) ++ (dbl x ++ [39]) := by rw [dbl_cons, if_neg h]; simp
      have e1 : p ++ (dbl (c :: x) ++ [39]) = p ++ c :: (dbl x ++ [39]) := by rw [dbl_cons, if_neg h]; simp
      have h1 : bt (p ++ (dbl (c :: x) ++ [39])) p.length ≠ 39 := by
        rw [e1, bt_mid]
        intro h2
        exact h (UInt8.toNat_inj.1 h2)
      have h3 : sub (p ++ (dbl (c :: x) ++ [39])) p.length (p.length + 1) = [c] := by
        rw [e1]; unfold sub
        rw [List.drop_left, show p.length + 1 - p.length = 1 by omega]; rfl
      rw [quo_other (by rw [e1]; simp) h1, h3, e]
      have := ih (p ++ [c]) (k ++ [c])
      have hl2 : (p ++ [c]).length = p.length + 1 := by simp
      rw [hl2] at this
      rw [this, dbl_cons, if_neg h]
      simp
      omega

theorem all_ok (L : List UInt8) (i : Nat) : (L.drop i).all (fun c => cOk c.toNat) = true ↔ rn cOk L i = max i L.length := by
  by_cases hi : i < L.length
  · rw [List.drop_eq_getElem_cons hi, List.all_cons]
    have hb : bt L i = L[i].toNat := by unfold bt; rw [List.getD_eq_getElem?_getD, List.getElem?_eq_getElem hi]; rfl
    have ih := all_ok L (i + 1)
    rcases hp : cOk (bt L i) with _ | _
    · rw [rn_stop fun _ => hp, ← hb, hp]
      simp; omega
    · rw [rn_step hi hp, ← hb, hp, Bool.true_and, ih, Nat.max_eq_right hi, Nat.max_eq_right (by omega)]
  · rw [rn_stop fun h => absurd h hi, List.drop_eq_nil_of_le (by omega)]
    simp; omega
termination_by L.length - i
theorem scan_text_ok {x : List UInt8} (h : x.all (fun c => cOk c.toNat) = true) : scanP (39 :: (dbl x ++ [39])) = ([(kText, x)], 0, 0) := by
  have hall : (39 :: (dbl x ++ [39])).all (fun c => cOk c.toNat) = true := by rw [List.all_cons, List.all_append, dbl_ok, h]; rfl
  have hrn := (all_ok (39 :: (dbl x ++ [39])) 0).1 (by rwa [List.drop_zero])
  rw [Nat.zero_max] at hrn
  have hq := quo_dbl x [39] []
  have hb0 : bt (39 :: (dbl x ++ [39])) 0 = 39 := bt_mid [] _ 39
  have hn : nxtP (39 :: (dbl x ++ [39])) 0 = some ((kText, x), (39 :: (dbl x ++ [39])).length) := by
    rw [nxt_quo (by rw [hb0]; rfl)]
    unfold textP
    rw [hb0]
    have e : quoP (39 :: (dbl x ++ [39])) 39 (0 + 1) [] = some (x, (39 :: (dbl x ++ [39])).length) := by
      have : ([39] : List UInt8) ++ (dbl x ++ [39]) = 39 :: (dbl x ++ [39]) := rfl
      rw [this] at hq
      rw [show 0 + 1 = [(39 : UInt8)].length from rfl, hq]
      simp; omega
    rw [e]; rfl
  unfold scanP
  rw [if_neg (by omega)]
  have h0 : rn (eqB 32) (39 :: (dbl x ++ [39])) 0 = 0 := rn_stop fun _ => by rw [hb0]; rfl
  rw [h0, scan_cons (by simp) hn, rn_stop (fun h => absurd h (by omega)), scan_end (by omega)]
  rfl
theorem scan_text_bad {x : List UInt8} (h : x.all (fun c => cOk c.toNat) = false) : (scanP (39 :: (dbl x ++ [39]))).1 = [] := by
  have hall : (39 :: (dbl x ++ [39])).all (fun c => cOk c.toNat) = false := by rw [List.all_cons, List.all_append, dbl_ok, h]; rfl
  have hrn : ¬ rn cOk (39 :: (dbl x ++ [39])) 0 = (39 :: (dbl x ++ [39])).length := fun e => by
    have := (all_ok (39 :: (dbl x ++ [39])) 0).2 (by rw [Nat.zero_max]; exact e)
    rw [List.drop_zero, hall] at this; cases this
  have hle := rn_le cOk (39 :: (dbl x ++ [39])) 0 (Nat.zero_le _)
  unfold scanP
  rw [if_pos (by omega)]
/-- What Valid asks of what is written is that the token is valid. -/
theorem valid_iff (t : Tok) : decide ((scanP (wr t)).1 = [t]) = vP t := by
  obtain ⟨k, x⟩ := t
  unfold wr vP
  by_cases hk : k = kText
  · subst hk
    simp only [if_true]
    rcases h : x.all (fun c => cOk c.toNat) with _ | _
    · rw [scan_text_bad h]; simp
    · rw [scan_text_ok h]; simp
  · simp only [if_neg hk]
    rw [decide_eq_decide]
    constructor
    · intro h
      rcases scan_err x with ⟨h1, h2⟩ | ⟨_, h2⟩
      · exact Prod.ext h (Prod.ext h2 h1)
      · rw [h2] at h; cases h
    · intro h; rw [h]
theorem scan_wr {t : Tok} (h : vP t = true) : scanP (wr t) = ([t], 0, 0) := by
  obtain ⟨k, x⟩ := t
  unfold vP at h
  unfold wr
  by_cases hk : k = kText
  · subst hk
    simp only [if_true] at h ⊢
    exact scan_text_ok h
  · simp only [if_neg hk] at h ⊢
    exact of_decide_eq_true h
/-- What is written of tokens, with a blank between. -/
def wrs (l : List Tok) : List UInt8 := Lib.join (l.map wr) [32]
theorem scan_wrs (l : List Tok) (h : ∀ t ∈ l, vP t = true) : scanP (wrs l) = (l, 0, 0) := by
  induction l with
  | nil => decide +kernel
  | cons t l ih =>
    have h1 := scan_wr (h t (List.mem_cons_self ..))
    have h2 := ih fun u hu => h u (List.mem_cons_of_mem _ hu)
    cases l with
    | nil => unfold wrs; rw [List.map_cons, List.map_nil, Lib.join_one]; exact h1
    | cons u l =>
      have e : wrs (t :: u :: l) = wr t ++ 32 :: wrs (u :: l) := by
        unfold wrs
        rw [List.map_cons, List.map_cons, Lib.join_cons, Lib.join_cons]
        simp [Lib.joinTail]
      rw [e, join_ok _ _ h1 h2, if_pos rfl]; rfl
end Go.Proofs.YtcafnpfhjiaolaaDoor
