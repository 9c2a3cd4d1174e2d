/- The plain mathematics of Scan, further: two texts with a blank between; letters of the other size; more blanks where one stands. -/
import Derived.Test.YtcafnpfhjiaolaaDoorTokP
namespace Go.Proofs.YtcafnpfhjiaolaaDoor

theorem bt_app_l {A R : List UInt8} {i : Nat} (h : i < A.length) : bt (A ++ R) i = bt A i := by
  unfold bt; rw [List.getD_eq_getElem?_getD, List.getElem?_append_left h, ← List.getD_eq_getElem?_getD]
theorem bt_app_r (X B : List UInt8) (i : Nat) : bt (X ++ B) (X.length + i) = bt B i := by
  unfold bt; rw [List.getD_eq_getElem?_getD, List.getElem?_append_right (by omega), Nat.add_sub_cancel_left, ← List.getD_eq_getElem?_getD]
theorem rn_app_lt {p : Nat → Bool} {A R : List UInt8} (i : Nat) (h : rn p A i < A.length) : rn p (A ++ R) i = rn p A i := by
  have hi : i < A.length := Nat.lt_of_le_of_lt (rn_ge p A i) h
  rcases hp : p (bt A i) with _ | _
  · rw [rn_stop fun _ => hp, rn_stop fun _ => by rw [bt_app_l hi]; exact hp]
  · rw [rn_step hi hp] at h ⊢
    rw [rn_step (by simp; omega) (by rw [bt_app_l hi]; exact hp)]
    exact rn_app_lt (i + 1) h
termination_by A.length - i
theorem rn_app_ge {p : Nat → Bool} {A R : List UInt8} (i : Nat) (hi : i ≤ A.length) (h : ¬ rn p A i < A.length) : rn p (A ++ R) i = rn p (A ++ R) A.length := by
  by_cases e : i = A.length
  · rw [e]
  · rcases hp : p (bt A i) with _ | _
    · rw [rn_stop fun _ => hp] at h; omega
    · rw [rn_step (by omega) hp] at h
      rw [rn_step (by simp; omega) (by rw [bt_app_l (by omega)]; exact hp)]
      exact rn_app_ge (i + 1) (by omega) h
termination_by A.length - i
theorem rn_shift (p : Nat → Bool) (X B : List UInt8) (i : Nat) : rn p (X ++ B) (X.length + i) = X.length + rn p B i := by
  by_cases hi : i < B.length
  · rcases hp : p (bt B i) with _ | _
    · rw [rn_stop fun _ => hp, rn_stop fun _ => by rw [bt_app_r]; exact hp]
    · rw [rn_step hi hp, rn_step (by simp; omega) (by rw [bt_app_r]; exact hp), Nat.add_assoc]
      exact rn_shift p X B (i + 1)
  · rw [rn_stop fun h => absurd h hi, rn_stop fun h => absurd h (by simp; omega)]
termination_by B.length - i
theorem sub_app_l {A R : List UInt8} {i r : Nat} (h : r ≤ A.length) : sub (A ++ R) i r = sub A i r := by
  unfold sub
  apply List.ext_getElem?
  intro k
  rw [List.getElem?_take, List.getElem?_take, List.getElem?_drop, List.getElem?_drop]
  by_cases hk : k < r - i
  · rw [if_pos hk, if_pos hk, List.getElem?_append_left (by omega)]
  · rw [if_neg hk, if_neg hk]
theorem sub_shift (X B : List UInt8) (i r : Nat) : sub (X ++ B) (X.length + i) (X.length + r) = sub B i r := by
  unfold sub
  rw [Nat.add_sub_add_left]
  congr 1
  rw [← List.drop_drop, List.drop_left]

theorem quo_app {A R : List UInt8} {q : Nat} (hq : q ≠ 32) (hq0 : q ≠ 0) (i : Nat) (k : List UInt8) (r : List UInt8 × Nat) (h : quoP A q i k = some r) : quoP (A ++ 32 :: R) q i k = some r := by
  rw [quoP] at h
  split at h
  · rename_i hl
    rw [quoP, rn_app_lt i hl, if_pos (by simp; omega)]
    have hb : bt (A ++ 32 :: R) (rn (neB q) A i + 1) = q ↔ bt A (rn (neB q) A i + 1) = q := by
      by_cases e : rn (neB q) A i + 1 < A.length
      · rw [bt_app_l e]
      · have e2 : rn (neB q) A i + 1 = A.length + 0 := by omega
        rw [e2, bt_app_r, bt_out (L := A) (by omega)]
        constructor
        · intro h; exact absurd h.symm hq
        · intro h; exact absurd h.symm hq0
    have hge := rn_ge (neB q) A i
    split at h
    · rename_i hc
      rw [if_pos (hb.2 hc), sub_app_l (by omega)]
      exact quo_app hq hq0 _ _ r h
    · rename_i hc
      rw [if_neg fun h => hc (hb.1 h), sub_app_l (by omega)]
      exact h
  · cases h
termination_by A.length - i
decreasing_by have := rn_ge (neB q) A i; omega
theorem quo_shift (X B : List UInt8) (q i : Nat) (k : List UInt8) : quoP (X ++ B) q (X.length + i) k = (quoP B q i k).map fun r => (r.1, X.length + r.2) := by
  rw [quoP.eq_1 (X ++ B) q (X.length + i) k, quoP.eq_1 B q i k, rn_shift, sub_shift]
  have hge := rn_ge (neB q) B i
  by_cases h : rn (neB q) B i < B.length
  · rw [if_pos (by simp; omega), if_pos h, Nat.add_assoc, bt_app_r, Nat.add_assoc]
    by_cases hc : bt B (rn (neB q) B i + 1) = q
    · rw [if_pos hc, if_pos hc]
      exact quo_shift X B q _ _
    · rw [if_neg hc, if_neg hc]; rfl
  · rw [if_neg (by simp; omega), if_neg h]; rfl
termination_by B.length - i
decreasing_by have := rn_ge (neB q) B i; omega

theorem sim_app (A R : List UInt8) : Sim A 0 (A ++ 32 :: R) 0 A.length :=
  ⟨by omega, by simp, fun j hj => by rw [Nat.zero_add, List.getElem?_append_left hj], .inl (by omega), .inr (by
    have := bt_app_r A (32 :: R) 0
    rw [Nat.zero_add]; exact this)⟩
theorem sim_shift (X B : List UInt8) : Sim B 0 (X ++ B) X.length B.length :=
  ⟨by omega, by simp, fun j hj => by rw [List.getElem?_append_right (by omega), Nat.add_sub_cancel_left, Nat.zero_add], .inl (by omega), .inl (by simp)⟩
theorem quo_at {c : Nat} (h : quoB c = true) : ¬ cL c = true ∧ ¬ cD c = true ∧ c ≠ 46 ∧ (c = 39 ∨ c = 34) ∧ c ≠ 32 ∧ c ≠ 0 := by
  unfold quoB at h
  simp only [decide_eq_true_eq] at h
  unfold cL cD
  rcases h with rfl | rfl <;> simp
theorem nxt_quo {L : List UInt8} {i : Nat} (h : quoB (bt L i) = true) : nxtP L i = textP L i := by
  obtain ⟨h1, h2, h3, h4, _⟩ := quo_at h
  unfold nxtP
  rw [if_neg h1, if_neg (by rintro (h | h); exact h2 h; exact h3 h.1), if_pos h4]

theorem nxt_app {A R : List UInt8} {i : Nat} (hi : i < A.length) (t : Tok) (e : Nat) (h : nxtP A i = some (t, e)) : nxtP (A ++ 32 :: R) i = some (t, e) := by
  rcases hq : quoB (bt A i) with _ | _
  · obtain ⟨o, _, h2, h3⟩ := nxt_sim (sim_app A R) hi (by rw [Nat.zero_add]; exact hq)
    rw [Nat.zero_add] at h2 h3
    rw [h3, ← h2, h]
  · have hq2 : quoB (bt (A ++ 32 :: R) i) = true := by rw [bt_app_l hi]; exact hq
    obtain ⟨_, _, _, _, h5, h6⟩ := quo_at hq
    rw [nxt_quo hq2]
    rw [nxt_quo hq] at h
    unfold textP at h ⊢
    rw [bt_app_l hi]
    obtain ⟨r, hr, he⟩ := Option.map_eq_some_iff.1 h
    rw [quo_app h5 h6 _ _ r hr]
    simp [he]
theorem nxt_app_none {A R : List UInt8} {i : Nat} (hi : i < A.length) (hq : quoB (bt A i) = false) (h : nxtP A i = none) : nxtP (A ++ 32 :: R) i = none := by
  obtain ⟨o, _, h2, h3⟩ := nxt_sim (sim_app A R) hi (by rw [Nat.zero_add]; exact hq)
  rw [Nat.zero_add] at h2 h3
  rw [h3, ← h2, h]
theorem nxt_shift (X B : List UInt8) {i : Nat} (hi : i < B.length) : nxtP (X ++ B) (X.length + i) = shf X.length (nxtP B i) := by
  rcases hq : quoB (bt B i) with _ | _
  · obtain ⟨o, _, h2, h3⟩ := nxt_sim (sim_shift X B) hi (by rw [Nat.zero_add]; exact hq)
    rw [Nat.zero_add] at h2
    rw [h3, h2]
    cases o <;> simp [shf]
  · have hq2 : quoB (bt (X ++ B) (X.length + i)) = true := by rw [bt_app_r]; exact hq
    rw [nxt_quo hq2, nxt_quo hq]
    unfold textP
    rw [bt_app_r, Nat.add_assoc, quo_shift]
    cases quoP B (bt B i) (i + 1) [] <;> simp [shf]

/-- A result of scanL, with its place shifted. -/
def shE (d : Nat) : Except Nat (List Tok) → Except Nat (List Tok)
  | .error a => .error (d + a)
  | .ok l => .ok l
theorem scan_shift (X B : List UInt8) (i : Nat) : scanL (X ++ B) (X.length + i) = shE X.length (scanL B i) := by
  by_cases hi : i < B.length
  · rcases hn : nxtP B i with _ | ⟨t, e⟩
    · rw [scan_bad hi hn, scan_bad (by simp; omega) (by rw [nxt_shift X B hi, hn]; rfl)]; rfl
    · have hge := (nxtP_gt B i hi t e hn).1
      have hr := rn_ge (eqB 32) B e
      have h2 : nxtP (X ++ B) (X.length + i) = some (t, X.length + e) := by rw [nxt_shift X B hi, hn]; rfl
      rw [scanL, if_pos (by simp; omega), h2, scanL, if_pos hi, hn]
      simp only []
      rw [if_pos (by omega), if_pos (by omega), rn_shift, scan_shift X B (rn (eqB 32) B e)]
      cases scanL B (rn (eqB 32) B e) <;> rfl
  · rw [scan_end hi, scan_end (by simp; omega)]; rfl
termination_by B.length - i

theorem pre_nil (x : Except Nat (List Tok)) : pre [] x = x := by cases x <;> rfl
theorem pre_cons (t : Tok) (l : List Tok) (x : Except Nat (List Tok)) : pre [t] (pre l x) = pre (t :: l) x := by cases x <;> rfl
theorem scan_cons {L : List UInt8} {i e : Nat} {t : Tok} (h : i < L.length) (hn : nxtP L i = some (t, e)) : scanL L i = pre [t] (scanL L (rn (eqB 32) L e)) := by
  have := scan_step (acc := []) h hn
  rw [pre_nil] at this
  exact this
theorem scan_app (A R : List UInt8) (i : Nat) (hi : i ≤ A.length) (l : List Tok) (h : scanL A (rn (eqB 32) A i) = .ok l) :
    scanL (A ++ 32 :: R) (rn (eqB 32) (A ++ 32 :: R) i) = pre l (scanL (A ++ 32 :: R) (rn (eqB 32) (A ++ 32 :: R) A.length)) := by
  by_cases hl : rn (eqB 32) A i < A.length
  · rw [rn_app_lt i hl]
    rcases hn : nxtP A (rn (eqB 32) A i) with _ | ⟨t, e⟩
    · rw [scan_bad hl hn] at h; cases h
    · obtain ⟨h1, h2⟩ := nxtP_gt A _ hl t e hn
      have hge := rn_ge (eqB 32) A i
      rw [scan_cons hl hn] at h
      rw [scan_cons (by simp; omega) (nxt_app hl t e hn)]
      rcases hs : scanL A (rn (eqB 32) A e) with a | l'
      · rw [hs] at h; cases h
      · rw [hs] at h
        have hl' : t :: l' = l := by simpa [pre] using h
        rw [scan_app A R e h2 l' hs, pre_cons, hl']
  · rw [rn_app_ge i hi hl]
    rw [scan_end hl] at h
    have : l = [] := by cases h; rfl
    rw [this, pre_nil]
termination_by A.length - i
theorem scan_app_bad (A R : List UInt8) (i : Nat) (a : Nat) (hq : ∀ j, j < A.length → quoB (bt A j) = false) (h : scanL A (rn (eqB 32) A i) = .error a) :
    scanL (A ++ 32 :: R) (rn (eqB 32) (A ++ 32 :: R) i) = .error a := by
  by_cases hl : rn (eqB 32) A i < A.length
  · rw [rn_app_lt i hl]
    rcases hn : nxtP A (rn (eqB 32) A i) with _ | ⟨t, e⟩
    · rw [scan_bad hl hn] at h
      rw [scan_bad (by simp; omega) (nxt_app_none hl (hq _ hl) hn)]
      exact h
    · obtain ⟨h1, h2⟩ := nxtP_gt A _ hl t e hn
      have hge := rn_ge (eqB 32) A i
      rw [scan_cons hl hn] at h
      rw [scan_cons (by simp; omega) (nxt_app hl t e hn)]
      rcases hs : scanL A (rn (eqB 32) A e) with a' | l'
      · rw [hs] at h
        rw [scan_app_bad A R e a' hq hs]
        exact h
      · rw [hs] at h; cases h
  · rw [scan_end hl] at h; cases h
termination_by A.length - i

theorem rn_blank_app (A R : List UInt8) : rn (eqB 32) (A ++ 32 :: R) A.length = (A ++ [32]).length + rn (eqB 32) R 0 := by
  have h1 : bt (A ++ 32 :: R) A.length = 32 := bt_app_r A (32 :: R) 0
  rw [rn_step (by simp) (by rw [h1]; rfl)]
  have := rn_shift (eqB 32) (A ++ [32]) R 0
  simpa using this
theorem rest_app (A R : List UInt8) : scanL (A ++ 32 :: R) (rn (eqB 32) (A ++ 32 :: R) A.length) = shE (A.length + 1) (scanL R (rn (eqB 32) R 0)) := by
  rw [rn_blank_app]
  have := scan_shift (A ++ [32]) R (rn (eqB 32) R 0)
  simpa using this
theorem ok_app (A R : List UInt8) (h : rn cOk A 0 = A.length) : rn cOk (A ++ 32 :: R) 0 = A.length + 1 + rn cOk R 0 := by
  rw [rn_app_ge 0 (by omega) (by omega)]
  have h1 : bt (A ++ 32 :: R) A.length = 32 := bt_app_r A (32 :: R) 0
  rw [rn_step (by simp) (by rw [h1]; rfl)]
  have := rn_shift cOk (A ++ [32]) R 0
  simpa using this

/-- Two texts with a blank between: both right. -/
theorem join_ok (A R : List UInt8) {l m : List Tok} (ha : scanP A = (l, 0, 0)) {p q : Nat} (hb : scanP R = (m, p, q)) :
    scanP (A ++ 32 :: R) = if q = 0 then (l ++ m, 0, 0) else ([], A.length + 1 + p, q) := by
  unfold scanP at ha
  split at ha
  · simp at ha
  · rename_i hA
    have hA2 : rn cOk A 0 = A.length := by have := rn_le cOk A 0 (by omega); omega
    split at ha
    · simp at ha
    · rename_i l' hl'
      simp only [Prod.mk.injEq, and_true] at ha
      subst ha
      have h3 := scan_app A R 0 (by omega) l' hl'
      rw [rest_app] at h3
      unfold scanP at hb ⊢
      rw [ok_app A R hA2]
      split at hb
      · rename_i hR
        simp only [Prod.mk.injEq] at hb
        rw [if_pos (by simp; omega), ← hb.2.1, ← hb.2.2]
        simp
      · rename_i hR
        rw [if_neg (by simp; omega), h3]
        split at hb
        · rename_i a hs
          simp only [Prod.mk.injEq] at hb
          rw [hs, ← hb.2.1, ← hb.2.2]
          simp [pre, shE]
        · rename_i m' hs
          simp only [Prod.mk.injEq] at hb
          rw [hs, ← hb.1, ← hb.2.2]
          simp [pre, shE]

/-- A text's tokens, if it is right. -/
def sc (L : List UInt8) : Option (List Tok) := if (scanP L).2.2 = 0 then some (scanP L).1 else none
theorem scan_err (L : List UInt8) : ((scanP L).2.2 = 0 ∧ (scanP L).2.1 = 0) ∨ ((scanP L).2.2 = 3 ∧ (scanP L).1 = []) := by
  unfold scanP
  split
  · exact .inr ⟨rfl, rfl⟩
  · split
    · exact .inr ⟨rfl, rfl⟩
    · exact .inl ⟨rfl, rfl⟩
theorem sc_eq {L M : List UInt8} (h : sc L = sc M) : (scanP L).2.2 = (scanP M).2.2 ∧ (scanP L).1 = (scanP M).1 := by
  unfold sc at h
  rcases scan_err L with ⟨h1, _⟩ | ⟨h1, h1'⟩ <;> rcases scan_err M with ⟨h2, _⟩ | ⟨h2, h2'⟩ <;> rw [h1, h2] at h <;> simp at h
  · exact ⟨by rw [h1, h2], h⟩
  · exact ⟨by rw [h1, h2], by rw [h1', h2']⟩
theorem sc_join (A R : List UInt8) (hq : ∀ j, j < A.length → quoB (bt A j) = false) : sc (A ++ 32 :: R) = (sc A).bind fun l => (sc R).map (l ++ ·) := by
  have hA := scan_err A
  rcases ha : scanP A with ⟨l, a, e⟩
  rcases hr : scanP R with ⟨m, p, q⟩
  rw [ha] at hA
  simp only [] at hA
  rcases hA with ⟨rfl, rfl⟩ | ⟨rfl, rfl⟩
  · have := join_ok A R ha hr
    unfold sc
    rw [this, ha, hr]
    by_cases h0 : q = 0 <;> simp [h0]
  · have h3 : (scanP (A ++ 32 :: R)).2.2 = 3 := by
      unfold scanP at ha ⊢
      by_cases hc : rn cOk A 0 < A.length
      · rw [rn_app_lt 0 hc, if_pos (by simp; omega)]
      · rw [if_neg hc] at ha
        by_cases hc2 : rn cOk (A ++ 32 :: R) 0 < (A ++ 32 :: R).length
        · rw [if_pos hc2]
        · rw [if_neg hc2]
          split at ha
          · rename_i b hs
            rw [scan_app_bad A R 0 b hq hs]
          · simp at ha
    unfold sc
    rw [h3, ha]
    simp

/-- A letter of the other size. -/
def tog (c : UInt8) : UInt8 := if 97 ≤ c.toNat ∧ c.toNat ≤ 122 then c - 32 else if 65 ≤ c.toNat ∧ c.toNat ≤ 90 then c + 32 else c
theorem tog_nat (c : UInt8) : (tog c).toNat = if 97 ≤ c.toNat ∧ c.toNat ≤ 122 then c.toNat - 32 else if 65 ≤ c.toNat ∧ c.toNat ≤ 90 then c.toNat + 32 else c.toNat := by
  unfold tog
  have h32 : (32 : UInt8).toNat = 32 := rfl
  have hc := UInt8.toNat_lt c
  split
  · rw [UInt8.toNat_sub_of_le _ _ (by rw [UInt8.le_iff_toNat_le]; omega)]; omega
  · split
    · rw [UInt8.toNat_add]; omega
    · rfl
theorem tog_lo (c : UInt8) : loB (tog c) = loB c := by
  rw [← UInt8.toNat_inj, loB_toNat, loB_toNat, tog_nat]
  unfold loN
  split <;> split <;> (try split) <;> omega
theorem bt_tog (L : List UInt8) (i : Nat) (h : i < L.length) : ∃ x, L[i]? = some x ∧ bt L i = x.toNat ∧ bt (L.map tog) i = (tog x).toNat := by
  have h1 : L[i]? = some L[i] := List.getElem?_eq_getElem h
  exact ⟨_, h1, bt_some h1, bt_some (by rw [List.getElem?_map, h1]; rfl)⟩
theorem rn_tog {p : Nat → Bool} (hp : ∀ c : UInt8, p (tog c).toNat = p c.toNat) (L : List UInt8) (i : Nat) : rn p (L.map tog) i = rn p L i := by
  by_cases hi : i < L.length
  · obtain ⟨x, _, h1, h2⟩ := bt_tog L i hi
    rcases hq : p (bt L i) with _ | _
    · rw [rn_stop fun _ => hq, rn_stop fun _ => by rw [h2, hp, ← h1]; exact hq]
    · rw [rn_step hi hq, rn_step (by simpa using hi) (by rw [h2, hp, ← h1]; exact hq)]
      exact rn_tog hp L (i + 1)
  · rw [rn_stop fun h => absurd h hi, rn_stop fun h => absurd h (by simpa using hi)]
termination_by L.length - i
theorem tog_ok (c : UInt8) : cOk (tog c).toNat = cOk c.toNat := by
  rw [tog_nat]; unfold cOk; rw [Bool.eq_iff_iff]; split <;> (try split) <;> simp <;> omega
theorem tog_blank (c : UInt8) : eqB 32 (tog c).toNat = eqB 32 c.toNat := by
  rw [tog_nat]; unfold eqB; rw [Bool.eq_iff_iff]; split <;> (try split) <;> simp <;> omega
theorem sim_tog (L : List UInt8) : Sim L 0 (L.map tog) 0 L.length :=
  ⟨by omega, by simp, fun j hj => by
    rw [Nat.zero_add, List.getElem?_map, List.getElem?_eq_getElem hj]
    simp [tog_lo], .inl (by omega), .inl (by simp)⟩
theorem nxt_tog (L : List UInt8) (i : Nat) (hi : i < L.length) (hq : quoB (bt L i) = false) : nxtP (L.map tog) i = nxtP L i := by
  obtain ⟨o, _, h2, h3⟩ := nxt_sim (sim_tog L) hi (by rw [Nat.zero_add]; exact hq)
  rw [Nat.zero_add] at h2 h3
  rw [h3, h2]
theorem scan_tog (L : List UInt8) (hq : ∀ j, j < L.length → quoB (bt L j) = false) (i : Nat) : scanL (L.map tog) i = scanL L i := by
  by_cases hi : i < L.length
  · rcases hn : nxtP L i with _ | ⟨t, e⟩
    · rw [scan_bad hi hn, scan_bad (by simpa using hi) (by rw [nxt_tog L i hi (hq i hi)]; exact hn)]
    · have h1 := (nxtP_gt L i hi t e hn).1
      have hge := rn_ge (eqB 32) L e
      rw [scan_cons hi hn, scan_cons (by simpa using hi) ((nxt_tog L i hi (hq i hi)).trans hn), rn_tog tog_blank, scan_tog L hq _]
  · rw [scan_end hi, scan_end (by simpa using hi)]
termination_by L.length - i
theorem sc_tog (L : List UInt8) (hq : ∀ j, j < L.length → quoB (bt L j) = false) : sc (L.map tog) = sc L := by
  have : scanP (L.map tog) = scanP L := by
    unfold scanP
    rw [rn_tog tog_ok, rn_tog tog_blank, scan_tog L hq]
    simp
  unfold sc
  rw [this]

/-- Two blanks more where one stands, letters of the other size. -/
def oth (L : List UInt8) : List UInt8 := L.flatMap fun c => if c = 32 then [32, 32, 32] else [tog c]
theorem sc_nil : sc [] = some [] := by decide +kernel
theorem sc_blank (X : List UInt8) : sc (32 :: X) = sc X := by
  have := sc_join [] X (fun j hj => by simp at hj)
  rw [sc_nil] at this
  simpa using this
theorem oth_app (A B : List UInt8) : oth (A ++ B) = oth A ++ oth B := by unfold oth; simp
theorem oth_none {A : List UInt8} (h : (32 : UInt8) ∉ A) : oth A = A.map tog := by
  unfold oth
  induction A with
  | nil => rfl
  | cons a A ih =>
    have h1 : a ≠ 32 := fun e => h (by rw [e]; simp)
    have h2 : (32 : UInt8) ∉ A := fun e => h (by simp [e])
    rw [List.flatMap_cons, if_neg h1, ih h2]; rfl
theorem tog_q {A : List UInt8} (hq : ∀ j, j < A.length → quoB (bt A j) = false) : ∀ j, j < (A.map tog).length → quoB (bt (A.map tog) j) = false := by
  intro j hj
  have hj' : j < A.length := by simpa using hj
  obtain ⟨x, hx, h1, h2⟩ := bt_tog A j hj'
  have h3 := hq j hj'
  rw [h1] at h3
  rw [h2, ← kQ.lo, ← loB_toNat, tog_lo, loB_toNat, kQ.lo]
  exact h3
theorem split_blank (L : List UInt8) : (32 : UInt8) ∉ L ∨ ∃ A R, L = A ++ 32 :: R ∧ (32 : UInt8) ∉ A := by
  induction L with
  | nil => exact .inl (by simp)
  | cons a L ih =>
    by_cases h : a = 32
    · exact .inr ⟨[], L, by rw [h]; rfl, by simp⟩
    · rcases ih with h1 | ⟨A, R, h1, h2⟩
      · exact .inl (by simp [h1]; exact fun e => h e.symm)
      · exact .inr ⟨a :: A, R, by rw [h1]; rfl, by simp [h2]; exact fun e => h e.symm⟩
theorem sc_oth (L : List UInt8) (hq : ∀ j, j < L.length → quoB (bt L j) = false) : sc (oth L) = sc L := by
  rcases split_blank L with h | ⟨A, R, rfl, h⟩
  · rw [oth_none h, sc_tog L hq]
  · have hqA : ∀ j, j < A.length → quoB (bt A j) = false := fun j hj => by
      have := hq j (by simp; omega)
      rw [bt_app_l hj] at this; exact this
    have hqR : ∀ j, j < R.length → quoB (bt R j) = false := fun j hj => by
      have := hq (A.length + (1 + j)) (by simp; omega)
      rw [bt_app_r] at this
      have h2 : bt (32 :: R) (1 + j) = bt R j := bt_app_r [32] R j
      rw [h2] at this; exact this
    have e : oth (A ++ 32 :: R) = A.map tog ++ 32 :: 32 :: 32 :: oth R := by
      rw [oth_app, oth_none h]
      rfl
    rw [e, sc_join _ _ (tog_q hqA), sc_join _ _ hqA, sc_tog A hqA, sc_blank, sc_blank, sc_oth R hqR]
termination_by L.length
decreasing_by simp_all; omega
theorem scan_oth (L : List UInt8) (hq : ∀ j, j < L.length → quoB (bt L j) = false) : (scanP L).2.2 = (scanP (32 :: oth L)).2.2 ∧ (scanP L).1 = (scanP (32 :: oth L)).1 :=
  sc_eq (by rw [sc_blank, sc_oth L hq])
theorem scan_at (L : List UInt8) (i a : Nat) (h : scanL L i = .error a) : a < L.length := by
  by_cases hi : i < L.length
  · rcases hn : nxtP L i with _ | ⟨t, e⟩
    · rw [scan_bad hi hn] at h
      have : i = a := by simpa using h
      omega
    · have h1 := (nxtP_gt L i hi t e hn).1
      have hge := rn_ge (eqB 32) L e
      rw [scan_cons hi hn] at h
      rcases hs : scanL L (rn (eqB 32) L e) with b | l
      · rw [hs] at h
        have : b = a := by simpa [pre] using h
        rw [← this]
        exact scan_at L _ b hs
      · rw [hs] at h; simp [pre] at h
  · rw [scan_end hi] at h; simp at h
termination_by L.length - i
/-- Where a text is wrong, that is within it. -/
theorem scan_within (L : List UInt8) (h : (scanP L).2.2 ≠ 0) : (scanP L).2.1 < L.length := by
  unfold scanP at h ⊢
  split
  · rename_i hc; exact hc
  · rename_i hc
    rw [if_neg hc] at h
    split at h
    · rename_i a hs
      exact scan_at L _ a hs
    · exact absurd rfl h
/-- There are at most as many tokens as bytes. -/
theorem scanL_num (L : List UInt8) (i : Nat) (hi : i ≤ L.length) (l : List Tok) (h : scanL L i = .ok l) : i + l.length ≤ L.length := by
  by_cases h1 : i < L.length
  · rcases hn : nxtP L i with _ | ⟨t, e⟩
    · rw [scan_bad h1 hn] at h; cases h
    · obtain ⟨h2, h3⟩ := nxtP_gt L i h1 t e hn
      have hge := rn_ge (eqB 32) L e
      have hle := rn_le (eqB 32) L e h3
      rw [scan_cons h1 hn] at h
      rcases hs : scanL L (rn (eqB 32) L e) with b | l'
      · rw [hs] at h; cases h
      · rw [hs] at h
        have : t :: l' = l := by simpa [pre] using h
        have := scanL_num L _ hle l' hs
        subst l
        simp; omega
  · rw [scan_end h1] at h
    have : [] = l := by simpa using h
    subst l
    simp; omega
termination_by L.length - i
theorem scan_num (L : List UInt8) : (scanP L).1.length ≤ L.length := by
  unfold scanP
  split
  · simp
  · split
    · simp
    · rename_i l hs
      have := scanL_num L _ (rn_le _ L 0 (by omega)) l hs
      simp; omega
end Go.Proofs.YtcafnpfhjiaolaaDoor
