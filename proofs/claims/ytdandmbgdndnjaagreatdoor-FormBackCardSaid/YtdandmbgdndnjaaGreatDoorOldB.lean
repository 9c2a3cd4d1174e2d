/- Mathematics for FormBack: what the reader of the old form gives of what is written. -/
import Derived.Test.YtdandmbgdndnjaaGreatDoorNewJ
namespace Go.Proofs.YtdandmbgdndnjaaGreatDoor
open Go.RowKit

def roAllL : List (List UInt8) → Nat → Ro → Ro
  | [], _, st => st
  | x :: xs, k, st => roAllL xs (k + 1) (roStep st k x)
theorem roAll_L : ∀ (xs : List ByteArray) (k : Nat) (s : Ro), roAll xs k s = roAllL (xs.map fun x => x.data.toList) k s
  | [], _, _ => rfl
  | x :: xs, k, s => roAll_L xs (k + 1) (roStep s k x.data.toList)
theorem roAllL_app : ∀ (xs ys : List (List UInt8)) (k : Nat) (s : Ro), roAllL (xs ++ ys) k s = roAllL ys (k + xs.length) (roAllL xs k s)
  | [], _, _, _ => rfl
  | x :: xs, ys, k, s => by
    show roAllL (xs ++ ys) (k + 1) (roStep s k x) = roAllL ys (k + (xs.length + 1)) (roAllL xs (k + 1) (roStep s k x))
    rw [roAllL_app xs ys (k + 1), show k + 1 + xs.length = k + (xs.length + 1) by omega]
/-- The lines of a statement. -/
def owLs (hd L : List UInt8) : List (List UInt8) := if 66 < L.length then (hd ++ L.take 66) :: owLs goL (L.drop 66) else [hd ++ L]
  termination_by L.length
  decreasing_by rw [List.length_drop]; omega
theorem owLs_go {hd L : List UInt8} (h : 66 < L.length) : owLs hd L = (hd ++ L.take 66) :: owLs goL (L.drop 66) := by rw [owLs, if_pos h]
theorem owLs_end {hd L : List UInt8} (h : ¬ 66 < L.length) : owLs hd L = [hd ++ L] := by rw [owLs, if_neg h]
theorem lnL_owLs : ∀ (n : Nat) (hd L R : List UInt8), L.length ≤ n → prB hd = true → prB L = true → lnL (owP hd L ++ R) = owLs hd L ++ lnL R
  | n, hd, L, R, hn, hh, hp => by
    by_cases h : 66 < L.length
    · cases n with
      | zero => omega
      | succ n =>
        have ih := lnL_owLs n goL (L.drop 66) R (by rw [List.length_drop]; omega) (by decide) (prB_drop hp 66)
        have hq : prB (hd ++ L.take 66) = true := prB_app.2 ⟨hh, prB_take hp 66⟩
        have e : owP hd L ++ R = (hd ++ L.take 66) ++ 10 :: (owP goL (L.drop 66) ++ R) := by rw [owP_go h]; simp
        rw [e, lnL_cons (pr_no10 hq), ih, owLs_go h]
        rfl
    · have hq : prB (hd ++ L) = true := prB_app.2 ⟨hh, hp⟩
      have e : owP hd L ++ R = (hd ++ L) ++ 10 :: R := by rw [owP_end h]; simp
      rw [e, lnL_cons (pr_no10 hq), owLs_end h]
      rfl
theorem owLs_pr : ∀ (n : Nat) (hd L : List UInt8), L.length ≤ n → hd.length = 6 → prB hd = true → prB L = true → ∀ y ∈ owLs hd L, y.length ≤ 72 ∧ prB y = true
  | n, hd, L, hn, h6, hh, hp, y, hy => by
    by_cases h : 66 < L.length
    · cases n with
      | zero => omega
      | succ n =>
        rw [owLs_go h] at hy
        rcases List.mem_cons.1 hy with rfl | hy
        · exact ⟨by rw [List.length_append, List.length_take]; omega, prB_app.2 ⟨hh, prB_take hp 66⟩⟩
        · exact owLs_pr n goL (L.drop 66) (by rw [List.length_drop]; omega) rfl (by decide) (prB_drop hp 66) y hy
    · rw [owLs_end h] at hy
      rw [List.mem_singleton.1 hy]
      exact ⟨by rw [List.length_append]; omega, prB_app.2 ⟨hh, hp⟩⟩

/-! Lines in columns. -/
def bl (n : Nat) : List UInt8 := List.replicate n 32
theorem fil_line {hd P : List UInt8} (h6 : hd.length = 6) (hp : P.length ≤ 66) : fil (hd ++ P) = hd ++ (P ++ bl (66 - P.length)) := by
  unfold fil bl
  rw [List.append_assoc, List.take_append, List.take_append, h6, List.take_of_length_le (by omega), List.take_of_length_le (by omega), List.take_replicate]
  congr 3
  omega
theorem foB_bl : ∀ (m o : Nat), foB (bl m) o 33 = m
  | 0, _ => rfl
  | m + 1, o => by
    show foB (32 :: bl m) o 33 = m + 1
    rw [foB_cons, if_neg (by rintro ⟨_, e⟩; exact absurd e (by decide)), foB_bl m]
    omega
theorem bl_len (m : Nat) : (bl m).length = m := List.length_replicate
/-- What is added of a piece. -/
theorem ro_add {st : Ro} {P : List UInt8} (m : Nat) (h : foB P st.op 33 = P.length) : ∃ o, roAdd st (P ++ bl m) = ⟨st.sts, st.l, st.lab, st.at_, st.tx ++ (P ++ bl m), o⟩ := by
  have e : foB (P ++ bl m) st.op 33 = (P ++ bl m).length := (foB_app P (bl m) 33 st.op).2 ⟨h, by rw [foB_bl, bl_len]⟩
  unfold roAdd
  rw [e, List.take_length]
  exact ⟨_, rfl⟩
theorem ltr_ne {L : List UInt8} {c : UInt8} (hc : c ∈ L) (h : c ≠ 32) : ltr L ≠ [] := fun e => by
  have := dropWhile_nil e c hc
  exact h (by simpa using this)
theorem cmQ_no {L : List UInt8} {c : UInt8} (hc : c ∈ L) (h : c ≠ 32) (h0 : bt L 0 ≠ 67 ∧ bt L 0 ≠ 99 ∧ bt L 0 ≠ 42 ∧ bt L 0 ≠ 33) : cmQ L true = false := by
  unfold cmQ
  have hn := ltr_ne hc h
  cases hl : ltr L with
  | nil => exact absurd hl hn
  | cons d S =>
    show (if true = true then decide _ else _) = false
    rw [if_pos rfl]
    simp [h0]
theorem bt_app {A B : List UInt8} {i : Nat} (h : i < A.length) : bt (A ++ B) i = bt A i := by
  unfold bt
  rw [List.getD_eq_getElem?_getD, List.getD_eq_getElem?_getD, List.getElem?_append_left h]
/-- What is added of a whole piece. -/
theorem ro_full {st : Ro} {P : List UInt8} (h : foB P st.op 33 = P.length) : roAdd st (P ++ bl 0) = ⟨st.sts, st.l, st.lab, st.at_, st.tx ++ P, opB P st.op⟩ := by
  unfold roAdd
  rw [show P ++ bl 0 = P from List.append_nil P, h, List.take_length]
/-- A further line. -/
theorem ro_more {st : Ro} {k : Nat} {P : List UInt8} (hp : P.length ≤ 66) (ha : st.at_ ≠ 0) : roStep st k (goL ++ P) = roAdd st (P ++ bl (66 - P.length)) := by
  have hc : cmQ (goL ++ P) true = false := cmQ_no (c := 38) (by simp [goL]) (by decide) (by rw [bt_app (by decide)]; decide)
  have hf := fil_line (hd := goL) (P := P) rfl hp
  have hH : roHead st k (fil (goL ++ P)) = st := by
    rw [hf]
    unfold roHead
    have e5 : bt (goL ++ (P ++ bl (66 - P.length))) 5 = 38 := by rw [bt_app (by decide)]; decide
    have et : (goL ++ (P ++ bl (66 - P.length))).take 5 = bl 5 := rfl
    rw [e5, et, if_neg (by decide), if_neg ha, if_neg (by decide)]
  have hd : (fil (goL ++ P)).drop 6 = P ++ bl (66 - P.length) := by rw [hf]; rfl
  unfold roStep
  rw [hc, if_neg (by decide), hH, hd]
theorem ro_rest : ∀ (n : Nat) (L : List UInt8) (st : Ro) (k : Nat), L.length ≤ n → st.at_ ≠ 0 → foB L st.op 33 = L.length →
    ∃ m o, roAllL (owLs goL L) k st = ⟨st.sts, st.l, st.lab, st.at_, st.tx ++ (L ++ bl m), o⟩
  | n, L, st, k, hn, ha, h => by
    by_cases hl : 66 < L.length
    · cases n with
      | zero => omega
      | succ n =>
        have e : L.take 66 ++ L.drop 66 = L := List.take_append_drop 66 L
        have g := (foB_app (L.take 66) (L.drop 66) 33 st.op).1 (by rw [e]; exact h)
        have h66 : (L.take 66).length = 66 := by rw [List.length_take]; omega
        have hs : roStep st k (goL ++ L.take 66) = ⟨st.sts, st.l, st.lab, st.at_, st.tx ++ L.take 66, opB (L.take 66) st.op⟩ := by
          rw [ro_more (by omega) ha, h66]
          exact ro_full g.1
        rw [owLs_go hl]
        show ∃ m o, roAllL (owLs goL (L.drop 66)) (k + 1) (roStep st k (goL ++ L.take 66)) = _
        rw [hs]
        obtain ⟨m, o, hr⟩ := ro_rest n (L.drop 66) ⟨st.sts, st.l, st.lab, st.at_, st.tx ++ L.take 66, opB (L.take 66) st.op⟩ (k + 1) (by rw [List.length_drop]; omega) ha g.2
        refine ⟨m, o, hr.trans ?_⟩
        show (⟨st.sts, st.l, st.lab, st.at_, st.tx ++ L.take 66 ++ (L.drop 66 ++ bl m), o⟩ : Ro) = _
        rw [List.append_assoc, ← List.append_assoc (L.take 66), e]
    · rw [owLs_end hl]
      show ∃ m o, roStep st k (goL ++ L) = _
      rw [ro_more (by omega) ha]
      obtain ⟨o, ho⟩ := ro_add (st := st) (66 - L.length) h
      exact ⟨_, o, ho⟩

/-! A statement's first line. -/
theorem dgP_digs (n : Nat) : ∀ c ∈ dgP n, dgL.contains c = true := by
  intro c hc
  unfold dgP at hc
  split at hc
  · cases hc
  · exact dec_digs n n (Nat.le_refl n) c hc
theorem trimR_bl (X : List UInt8) (m : Nat) : Lib.trimRightB (X ++ bl m) 32 = Lib.trimRightB X 32 := by
  unfold Lib.trimRightB
  rw [List.reverse_append, List.dropWhile_append_of_pos]
  intro c hc
  have := List.eq_of_mem_replicate (List.mem_reverse.1 hc)
  simp [this]
theorem trimB_bl (X : List UInt8) (m : Nat) : Lib.trimB (X ++ bl m) 32 = Lib.trimB X 32 := by
  unfold Lib.trimB
  rw [trimR_bl]
theorem dw_id {L : List UInt8} (h : ∀ c ∈ L, c ≠ 32) : L.dropWhile (· == 32) = L := by
  cases L with
  | nil => rfl
  | cons c L => rw [List.dropWhile_cons, if_neg (by simpa using h c List.mem_cons_self)]
theorem trimB_id {L : List UInt8} (h : ∀ c ∈ L, c ≠ 32) : Lib.trimB L 32 = L := by
  have e : Lib.trimRightB L 32 = L := by
    unfold Lib.trimRightB
    rw [dw_id (fun c hc => h c (List.mem_reverse.1 hc)), List.reverse_reverse]
  unfold Lib.trimB
  rw [e]
  exact dw_id h
theorem hdP_5 {n : Nat} (h : n ≤ 99999) : (hdP n).take 5 = dgP n ++ bl (5 - (dgP n).length) ∧ bt (hdP n) 5 = 32 := by
  have hl := dgP_len h
  constructor
  · unfold hdP bl
    rw [List.take_append, List.take_of_length_le hl, List.take_replicate]
    congr 2
    omega
  · unfold bt hdP
    rw [List.getD_eq_getElem?_getD, List.getElem?_append_right hl, List.getElem?_replicate, if_pos (by omega)]
    rfl
theorem hdP_0 {n : Nat} : bt (hdP n) 0 ≠ 67 ∧ bt (hdP n) 0 ≠ 99 ∧ bt (hdP n) 0 ≠ 42 ∧ bt (hdP n) 0 ≠ 33 := by
  cases hd : dgP n with
  | nil =>
    have e : hdP n = bl 6 := by unfold hdP; rw [hd]; rfl
    rw [e]; decide
  | cons c D =>
    have hc := dgP_digs n c (by rw [hd]; exact List.mem_cons_self)
    have e : bt (hdP n) 0 = c.toNat := by unfold hdP; rw [hd]; rfl
    rw [e]
    have : ∀ c ∈ dgL, c.toNat ≠ 67 ∧ c.toNat ≠ 99 ∧ c.toNat ≠ 42 ∧ c.toNat ≠ 33 := by decide
    exact this c (List.contains_iff_mem.1 hc)
theorem ol_dg {n : Nat} (h : n ≤ 99999) (l a : Nat) : olL (dgP n) = n ∧ olW (dgP n) l a = l := by
  unfold olL olW dgP
  by_cases h0 : n = 0
  · rw [if_pos h0, h0]; exact ⟨rfl, rfl⟩
  · have he : (Lib.decDigits n).isEmpty = false := List.isEmpty_eq_false_iff.2 (dec_ne n)
    rw [if_neg h0, lbP_dec h0 h, he]
    exact ⟨by simp, by simp⟩
/-- The first line of a statement. -/
theorem ro_first {st : Ro} {k n : Nat} {P R : List UInt8} {b : UInt8} (hn : n ≤ 99999) (hp : P.length ≤ 66) (hb : P = b :: R) (b32 : b ≠ 32) :
    roStep st k (hdP n ++ P) = roAdd ⟨enS st.sts st.lab st.at_ st.tx, enW st.l st.lab st.at_ st.tx, n, k + 1, [], 0⟩ (P ++ bl (66 - P.length)) := by
  have h6 := hdP_len hn
  have hc : cmQ (hdP n ++ P) true = false := cmQ_no (c := b) (by rw [hb]; simp) b32 (by rw [bt_app (by omega)]; exact hdP_0)
  have hf := fil_line (hd := hdP n) (P := P) h6 hp
  obtain ⟨h5, h32⟩ := hdP_5 hn
  have hd32 : ∀ c ∈ dgP n, c ≠ 32 := fun c hc e => by
    have := dgP_digs n c hc
    rw [e] at this; revert this; decide
  have hH : roHead st k (fil (hdP n ++ P)) = ⟨enS st.sts st.lab st.at_ st.tx, enW st.l st.lab st.at_ st.tx, n, k + 1, [], 0⟩ := by
    rw [hf]
    unfold roHead
    have e5 : bt (hdP n ++ (P ++ bl (66 - P.length))) 5 = 32 := by rw [bt_app (by omega)]; exact h32
    have et : (hdP n ++ (P ++ bl (66 - P.length))).take 5 = dgP n ++ bl (5 - (dgP n).length) := by rw [List.take_append_of_le_length (by omega)]; exact h5
    obtain ⟨o1, o2⟩ := ol_dg hn (enW st.l st.lab st.at_ st.tx) (k + 1)
    rw [e5, et, if_pos (Or.inl rfl), trimB_bl, trimB_id hd32, o1, o2]
  have hd : (fil (hdP n ++ P)).drop 6 = P ++ bl (66 - P.length) := by rw [hf, List.drop_append_of_le_length (by omega), List.drop_of_length_le (by omega)]; rfl
  unfold roStep
  rw [hc, if_neg (by decide), hH, hd]
theorem ro_stmt {X : List UInt8} {n : Nat} (hs : isStB X = true) (hn : n ≤ 99999) (st : Ro) (k : Nat) :
    ∃ m o, roAllL (owLs (hdP n) X) k st = ⟨enS st.sts st.lab st.at_ st.tx, enW st.l st.lab st.at_ st.tx, n, k + 1, X ++ bl m, o⟩ := by
  obtain ⟨Q, R, b, c, hQ, hb, c32, c38, b32, b33, ht, hc, h33, h59, hne, hop⟩ := st_ends hs
  by_cases hl : 66 < X.length
  · have e : X.take 66 ++ X.drop 66 = X := List.take_append_drop 66 X
    have g := (foB_app (X.take 66) (X.drop 66) 33 0).1 (by rw [e]; exact h33)
    have h66 : (X.take 66).length = 66 := by rw [List.length_take]; omega
    have hb' : X.take 66 = b :: R.take 65 := by rw [hb]; rfl
    have hs1 : roStep st k (hdP n ++ X.take 66) = ⟨enS st.sts st.lab st.at_ st.tx, enW st.l st.lab st.at_ st.tx, n, k + 1, X.take 66, opB (X.take 66) 0⟩ := by
      rw [ro_first hn (by omega) hb' b32, h66]
      exact (ro_full g.1).trans (by rw [List.nil_append])
    rw [owLs_go hl]
    show ∃ m o, roAllL (owLs goL (X.drop 66)) (k + 1) (roStep st k (hdP n ++ X.take 66)) = _
    rw [hs1]
    obtain ⟨m, o, hr⟩ := ro_rest (X.drop 66).length (X.drop 66) ⟨enS st.sts st.lab st.at_ st.tx, enW st.l st.lab st.at_ st.tx, n, k + 1, X.take 66, opB (X.take 66) 0⟩ (k + 1) (Nat.le_refl _) (Nat.succ_ne_zero k) g.2
    refine ⟨m, o, hr.trans ?_⟩
    show (⟨_, _, n, k + 1, X.take 66 ++ (X.drop 66 ++ bl m), o⟩ : Ro) = _
    rw [← List.append_assoc, e]
  · rw [owLs_end hl]
    show ∃ m o, roStep st k (hdP n ++ X) = _
    rw [ro_first hn (by omega) hb b32]
    obtain ⟨o, ho⟩ := ro_add (st := ⟨enS st.sts st.lab st.at_ st.tx, enW st.l st.lab st.at_ st.tx, n, k + 1, [], 0⟩) (66 - X.length) h33
    exact ⟨_, o, ho.trans (by rw [List.nil_append])⟩
theorem en_bl {X : List UInt8} (hs : isStB X = true) (m : Nat) (sts : List St) (l n a : Nat) : enS sts n a (X ++ bl m) = sts ++ [(n, X, a)] ∧ enW l n a (X ++ bl m) = l := by
  obtain ⟨Q, R, b, c, hQ, hb, c32, c38, b32, b33, ht, hc, h33, h59, hne, hop⟩ := st_ends hs
  have e : X.isEmpty = false := List.isEmpty_eq_false_iff.2 hne
  unfold enS enW
  simp [trimB_bl, ht, e, hs]
/-- All statements read back. -/
theorem ro_all : ∀ (ss : List (Nat × List UInt8)), (∀ s ∈ ss, isStB s.2 = true ∧ s.1 ≤ 99999) → ∀ (st : Ro) (k : Nat),
    ∃ (sts' : List St) (r : Ro), roAllL ((ss.flatMap fun s => owLs (hdP s.1) s.2) ++ [[]]) k st = r ∧ enS r.sts r.lab r.at_ r.tx = enS st.sts st.lab st.at_ st.tx ++ sts' ∧ enW r.l r.lab r.at_ r.tx = enW st.l st.lab st.at_ st.tx ∧ sts'.map (fun s => (s.1, s.2.1)) = ss
  | [], _, st, k => ⟨[], st, rfl, (List.append_nil _).symm, rfl, rfl⟩
  | s :: ss, h, st, k => by
    obtain ⟨h1, h2⟩ := h s List.mem_cons_self
    obtain ⟨m, o, hr⟩ := ro_stmt h1 h2 st k
    obtain ⟨e1, e2⟩ := en_bl h1 m (enS st.sts st.lab st.at_ st.tx) (enW st.l st.lab st.at_ st.tx) s.1 (k + 1)
    obtain ⟨sts', r, hs, g1, g2, hm⟩ := ro_all ss (fun x hx => h x (List.mem_cons_of_mem _ hx)) ⟨enS st.sts st.lab st.at_ st.tx, enW st.l st.lab st.at_ st.tx, s.1, k + 1, s.2 ++ bl m, o⟩ (k + (owLs (hdP s.1) s.2).length)
    refine ⟨(s.1, s.2, k + 1) :: sts', r, ?_, ?_, ?_, by rw [List.map_cons, hm]⟩
    · rw [List.flatMap_cons, List.append_assoc, roAllL_app, hr]; exact hs
    · rw [g1]
      show enS (enS st.sts st.lab st.at_ st.tx) s.1 (k + 1) (s.2 ++ bl m) ++ sts' = _
      rw [e1, List.append_assoc]; rfl
    · rw [g2]; exact e2
theorem hdP_pr (n : Nat) : prB (hdP n) = true := by
  unfold hdP
  refine prB_app.2 ⟨dgs_pr (dgP_digs n), List.all_eq_true.2 fun c hc => ?_⟩
  rw [List.eq_of_mem_replicate hc]; decide
theorem lnL_old : ∀ (l : List Ln), l.all okL = true → lnL (l.flatMap owS) = ((l.map kyL).flatMap fun s => owLs (hdP s.1) s.2) ++ [[]]
  | [], _ => lnL_nil
  | x :: l, h => by
    rw [List.all_cons, Bool.and_eq_true] at h
    have ih := lnL_old l h.2
    rw [List.flatMap_cons, List.map_cons, List.flatMap_cons, List.append_assoc, ← ih]
    exact lnL_owLs _ _ _ _ (Nat.le_refl _) (hdP_pr _) (okL_parts h.1).2.1
/-- What is written in the old form is read back. -/
theorem old_back {l : List Ln} (h : vlB l = true) (h8 : (l.flatMap owS).length ≤ 8000) :
    ∃ sts : List St, oldR ⟨(l.flatMap owS).toArray⟩ = (sts, 0, 0) ∧ sts.map (fun s => (s.1, s.2.1)) = l.map kyL := by
  unfold vlB at h
  rw [Bool.and_eq_true, decide_eq_true_eq] at h
  obtain ⟨hn, hok⟩ := h
  have e := lns_L ⟨(l.flatMap owS).toArray⟩
  rw [show (⟨(l.flatMap owS).toArray⟩ : ByteArray).data.toList = l.flatMap owS from rfl, lnL_old l hok] at e
  have hw : nrW 72 (lns ⟨(l.flatMap owS).toArray⟩) 0 0 = 0 := by
    refine nrW_ok 72 _ 0 0 ?_
    rw [e]
    intro y hy
    rcases List.mem_append.1 hy with hy | hy
    · obtain ⟨s, hs, hy⟩ := List.mem_flatMap.1 hy
      obtain ⟨x, hx, rfl⟩ := List.mem_map.1 hs
      obtain ⟨p1, p2, p3⟩ := okL_parts (List.all_eq_true.1 hok x hx)
      exact owLs_pr _ _ _ (Nat.le_refl _) (hdP_len p3) (hdP_pr _) p2 y hy
    · rw [List.mem_singleton.1 hy]; exact ⟨by simp, rfl⟩
  obtain ⟨sts, r, h1, g1, g2, h2⟩ := ro_all (l.map kyL) (ky_ok hok) ⟨[], 0, 0, 0, [], 0⟩ 0
  have hS : oldS ⟨(l.flatMap owS).toArray⟩ = r := by
    unfold oldS
    rw [hw, roAll_L, e, h1]
  have z1 : enS ([] : List St) 0 0 [] = [] := rfl
  have z2 : enW 0 0 0 [] = 0 := rfl
  have hl : sts.length = l.length := by
    have := congrArg List.length h2
    simpa using this
  refine ⟨sts, ?_, h2⟩
  unfold oldR
  rw [hS, if_neg (by rw [← data_len]; show ¬ 8000 < (l.flatMap owS).length; omega), g1, g2]
  show resR (enS [] 0 0 [] ++ sts) (enW 0 0 0 []) = _
  rw [z1, z2, List.nil_append]
  unfold resR
  rw [if_neg (by simp), if_neg (by simp; omega)]
end Go.Proofs.YtdandmbgdndnjaaGreatDoor
