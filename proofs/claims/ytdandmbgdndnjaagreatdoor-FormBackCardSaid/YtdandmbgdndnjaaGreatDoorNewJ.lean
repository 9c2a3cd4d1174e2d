/- Mathematics for FormBack: the lines of what is written, and what the reader of the new form gives of it. -/
import Derived.Test.YtdandmbgdndnjaaGreatDoorNewI
namespace Go.Proofs.YtdandmbgdndnjaaGreatDoor
open Go.RowKit

/-- The lines of a list of bytes. -/
def lnL (L : List UInt8) : List (List UInt8) := Lib.splitK [10] 0 (Lib.count L [10]) L
theorem lns_L (s : ByteArray) : (lns s).map (fun x => x.data.toList) = lnL s.data.toList := Lib.splitB_data ⟨#[10]⟩ 0 _ s
theorem lnL_nil : lnL [] = [[]] := by
  unfold lnL
  rw [Lib.count_one]
  rfl
theorem idx_line : ∀ (x R : List UInt8), 10 ∉ x → Lib.index (x ++ 10 :: R) [10] = (x.length : Int)
  | [], R, _ => by simp [Lib.index, List.isPrefixOf]
  | c :: x, R, h => by
    have hc : c ≠ 10 := fun e => h (by simp [e])
    have ih := idx_line x R (fun e => h (List.mem_cons_of_mem _ e))
    have hp : ([10] : List UInt8).isPrefixOf (c :: (x ++ 10 :: R)) = false := by simp [List.isPrefixOf, Ne.symm hc]
    have h1 : ¬ ((x.length : Int) == -1) = true := by rw [beq_iff_eq]; omega
    show Lib.index (c :: (x ++ 10 :: R)) [10] = _
    rw [Lib.index, hp, ih, if_neg (by decide), if_neg h1, List.length_cons]
    omega
theorem lnL_cons {x R : List UInt8} (h : 10 ∉ x) : lnL (x ++ 10 :: R) = x :: lnL R := by
  have hi := idx_line x R h
  have hc : Lib.count (x ++ 10 :: R) [10] = Lib.count R [10] + 1 := by
    rw [Lib.count_one, Lib.count_one, List.count_append, List.count_cons_self, List.count_eq_zero.2 h]; omega
  have h1 : ¬ ((x.length : Int) == -1) = true := by rw [beq_iff_eq]; omega
  have e1 : (x ++ 10 :: R).take (x.length + 0) = x := by simp
  have e2 : (x ++ 10 :: R).drop (x.length + 1) = R := by
    rw [List.drop_append, List.drop_of_length_le (by omega), Nat.add_sub_cancel_left]; rfl
  unfold lnL
  rw [hc, Lib.splitK, hi, if_neg h1]
  show (x ++ 10 :: R).take (x.length + 0) :: Lib.splitK [10] 0 (Lib.count R [10]) ((x ++ 10 :: R).drop (x.length + 1)) = _
  rw [e1, e2]
theorem pr_no10 {L : List UInt8} (h : prB L = true) : 10 ∉ L := fun hm => by
  have := List.all_eq_true.1 h 10 hm
  revert this; decide
theorem prB_app {A B : List UInt8} : prB (A ++ B) = true ↔ prB A = true ∧ prB B = true := by
  unfold prB; rw [List.all_append, Bool.and_eq_true]
theorem prB_cons {c : UInt8} {B : List UInt8} : prB (c :: B) = true ↔ (32 ≤ c.toNat ∧ c.toNat ≤ 126) ∧ prB B = true := by
  unfold prB; rw [List.all_cons, Bool.and_eq_true, Bool.and_eq_true, decide_eq_true_eq, decide_eq_true_eq]
theorem prB_take {L : List UInt8} (h : prB L = true) (n : Nat) : prB (L.take n) = true :=
  List.all_eq_true.2 fun c hc => List.all_eq_true.1 h c (List.mem_of_mem_take hc)
theorem prB_drop {L : List UInt8} (h : prB L = true) (n : Nat) : prB (L.drop n) = true :=
  List.all_eq_true.2 fun c hc => List.all_eq_true.1 h c (List.mem_of_mem_drop hc)

/-- The further lines of a statement, as they are written. -/
theorem lnL_nwLs : ∀ (n : Nat) (L R : List UInt8), L.length ≤ n → prB L = true → lnL (38 :: (nwP L ++ R)) = nwLs L ++ lnL R
  | n, L, R, hn, hp => by
    by_cases h : 100 < L.length
    · cases n with
      | zero => omega
      | succ n =>
        have ih := lnL_nwLs n (L.drop 100) R (by rw [List.length_drop]; omega) (prB_drop hp 100)
        have hq : prB (38 :: (L.take 100 ++ [38])) = true := prB_cons.2 ⟨by decide, prB_app.2 ⟨prB_take hp 100, by decide⟩⟩
        have e : 38 :: (nwP L ++ R) = (38 :: (L.take 100 ++ [38])) ++ 10 :: (38 :: (nwP (L.drop 100) ++ R)) := by
          rw [nwP_go h]; simp
        rw [e, lnL_cons (pr_no10 hq), ih, nwLs_go h]
        rfl
    · have hq : prB (38 :: L) = true := prB_cons.2 ⟨by decide, hp⟩
      have e : 38 :: (nwP L ++ R) = (38 :: L) ++ 10 :: R := by rw [nwP_end h]; simp
      rw [e, lnL_cons (pr_no10 hq), nwLs_end h]
      rfl
theorem lnL_nwSt {T : List UInt8} (hp : prB T = true) (R : List UInt8) : lnL (nwP T ++ R) = nwSt T ++ lnL R := by
  unfold nwSt
  by_cases h : 100 < T.length
  · have hq : prB (T.take 100 ++ [38]) = true := prB_app.2 ⟨prB_take hp 100, by decide⟩
    have e : nwP T ++ R = (T.take 100 ++ [38]) ++ 10 :: (38 :: (nwP (T.drop 100) ++ R)) := by
      rw [nwP_go h]; simp
    rw [if_pos h, e, lnL_cons (pr_no10 hq), lnL_nwLs _ _ R (Nat.le_refl _) (prB_drop hp 100)]
    rfl
  · have e : nwP T ++ R = T ++ 10 :: R := by rw [nwP_end h]; simp
    rw [if_neg h, e, lnL_cons (pr_no10 hp)]
    rfl
theorem nwLs_pr : ∀ (n : Nat) (L : List UInt8), L.length ≤ n → prB L = true → ∀ y ∈ nwLs L, y.length ≤ 132 ∧ prB y = true
  | n, L, hn, hp, y, hy => by
    by_cases h : 100 < L.length
    · cases n with
      | zero => omega
      | succ n =>
        rw [nwLs_go h] at hy
        rcases List.mem_cons.1 hy with rfl | hy
        · exact ⟨by simp; omega, prB_cons.2 ⟨by decide, prB_app.2 ⟨prB_take hp 100, by decide⟩⟩⟩
        · exact nwLs_pr n (L.drop 100) (by rw [List.length_drop]; omega) (prB_drop hp 100) y hy
    · rw [nwLs_end h] at hy
      rw [List.mem_singleton.1 hy]
      exact ⟨by rw [List.length_cons]; omega, prB_cons.2 ⟨by decide, hp⟩⟩
theorem nwSt_pr {T : List UInt8} (hp : prB T = true) : ∀ y ∈ nwSt T, y.length ≤ 132 ∧ prB y = true := by
  intro y hy
  unfold nwSt at hy
  split at hy
  · rcases List.mem_cons.1 hy with rfl | hy
    · exact ⟨by simp; omega, prB_app.2 ⟨prB_take hp 100, by decide⟩⟩
    · exact nwLs_pr _ _ (Nat.le_refl _) (prB_drop hp 100) y hy
  · rw [List.mem_singleton.1 hy]
    exact ⟨by omega, hp⟩
/-- Lines that are neither too long nor have other bytes are not refused. -/
theorem nrW_ok (wd : Nat) : ∀ (xs : List ByteArray) (k l : Nat), (∀ y ∈ xs.map (fun x => x.data.toList), y.length ≤ wd ∧ prB y = true) → nrW wd xs k l = l
  | [], _, _, _ => rfl
  | x :: xs, k, l, h => by
    obtain ⟨h1, h2⟩ := h x.data.toList (by simp)
    rw [data_len] at h1
    show nrW wd xs (k + 1) (if wd < x.size ∨ prB x.data.toList = false then wrN l (k + 1) else l) = l
    rw [if_neg (by rw [h2]; rintro (h3 | h3); omega; cases h3)]
    exact nrW_ok wd xs (k + 1) l (fun y hy => h y (by rw [List.map_cons]; exact List.mem_cons_of_mem _ hy))

/-- Label and text of a statement. -/
def kyL (x : Ln) : Nat × List UInt8 := (x.1.toNat, x.2.1.data.toList)
theorem okL_parts {x : Ln} (h : okL x = true) : isStB x.2.1.data.toList = true ∧ prB x.2.1.data.toList = true ∧ x.1.toNat ≤ 99999 := by
  obtain ⟨h0, h1, -⟩ := okL_bounds h
  unfold okL isTB at h
  simp only [Bool.and_eq_true] at h
  exact ⟨h.2.1, h.2.2, by omega⟩
theorem dg_pr : ∀ c ∈ dgL, 32 ≤ c.toNat ∧ c.toNat ≤ 126 := by decide
theorem dgs_pr {D : List UInt8} (h : ∀ c ∈ D, dgL.contains c = true) : prB D = true :=
  List.all_eq_true.2 fun c hc => by
    have := dg_pr c (List.contains_iff_mem.1 (h c hc))
    simp [this]
theorem txN_eq {x : Ln} (h : okL x = true) : txN x = nwTx x.1.toNat x.2.1.data.toList := by
  obtain ⟨h0, -, -⟩ := okL_bounds h
  unfold txN nwTx dgP
  by_cases hz : x.1.toNat = 0
  · rw [if_neg (by omega), if_pos hz]
  · rw [if_pos (by omega), if_neg hz, if_neg hz, List.append_assoc]; rfl
theorem nwTx_pr {n : Nat} {X : List UInt8} (h : prB X = true) : prB (nwTx n X) = true := by
  unfold nwTx
  split
  · exact h
  · exact prB_app.2 ⟨dgs_pr (dec_digs n n (Nat.le_refl n)), prB_cons.2 ⟨by decide, h⟩⟩
theorem lnL_new : ∀ (l : List Ln), l.all okL = true → lnL (l.flatMap nwS) = ((l.map kyL).flatMap fun s => nwSt (nwTx s.1 s.2)) ++ [[]]
  | [], _ => lnL_nil
  | x :: l, h => by
    rw [List.all_cons, Bool.and_eq_true] at h
    have ih := lnL_new l h.2
    have hp := nwTx_pr (n := x.1.toNat) (okL_parts h.1).2.1
    rw [List.flatMap_cons, List.map_cons, List.flatMap_cons, List.append_assoc, ← ih]
    unfold nwS
    rw [txN_eq h.1]
    exact lnL_nwSt hp _
theorem ky_ok {l : List Ln} (h : l.all okL = true) : ∀ s ∈ l.map kyL, isStB s.2 = true ∧ s.1 ≤ 99999 := by
  intro s hs
  obtain ⟨x, hx, rfl⟩ := List.mem_map.1 hs
  obtain ⟨h1, -, h2⟩ := okL_parts (List.all_eq_true.1 h x hx)
  exact ⟨h1, h2⟩
/-- What is written in the new form is read back. -/
theorem new_back {l : List Ln} (h : vlB l = true) (h8 : (l.flatMap nwS).length ≤ 8000) :
    ∃ sts : List St, newR ⟨(l.flatMap nwS).toArray⟩ = (sts, 0, 0) ∧ sts.map (fun s => (s.1, s.2.1)) = l.map kyL := by
  unfold vlB at h
  rw [Bool.and_eq_true, decide_eq_true_eq] at h
  obtain ⟨hn, hok⟩ := h
  have e := lns_L ⟨(l.flatMap nwS).toArray⟩
  rw [show (⟨(l.flatMap nwS).toArray⟩ : ByteArray).data.toList = l.flatMap nwS from rfl, lnL_new l hok] at e
  have hw : nrW 132 (lns ⟨(l.flatMap nwS).toArray⟩) 0 0 = 0 := by
    refine nrW_ok 132 _ 0 0 ?_
    rw [e]
    intro y hy
    rcases List.mem_append.1 hy with hy | hy
    · obtain ⟨s, hs, hy⟩ := List.mem_flatMap.1 hy
      obtain ⟨x, hx, rfl⟩ := List.mem_map.1 hs
      exact nwSt_pr (nwTx_pr (okL_parts (List.all_eq_true.1 hok x hx)).2.1) y hy
    · rw [List.mem_singleton.1 hy]; exact ⟨by simp, rfl⟩
  obtain ⟨sts, h1, h2⟩ := nw_all (l.map kyL) (ky_ok hok) [] 0 0
  have hS : newS ⟨(l.flatMap nwS).toArray⟩ = ⟨sts, 0, 0, 0, [], 0⟩ := by
    unfold newS
    rw [hw, nwAll_L, e, h1]
    rfl
  have hl : sts.length = l.length := by
    have := congrArg List.length h2
    simpa using this
  refine ⟨sts, ?_, h2⟩
  unfold newR
  rw [hS, if_neg (by rw [← data_len]; show ¬ 8000 < (l.flatMap nwS).length; omega)]
  unfold resR
  rw [if_neg (by simp), if_neg (by simp; omega)]
end Go.Proofs.YtdandmbgdndnjaaGreatDoor
