/- Contract of the document's side's Comment: which lines are comments. -/
import Derived.Test.YtdandmbgdndnjaaGreatDoorSrcE
namespace Go.Proofs.YtdandmbgdndnjaaGreatDoor
open Go.RowKit

/-- Which lines are comments. -/
def cmQ (L : List UInt8) (old : Bool) : Bool :=
  match ltr L with
  | [] => true
  | c :: _ => if old = true then decide (bt L 0 = 67 ∨ bt L 0 = 99 ∨ bt L 0 = 42 ∨ bt L 0 = 33) else decide (c.toNat = 33)
theorem ltr_head {L : List UInt8} {c : UInt8} {r : List UInt8} (h : ltr L = c :: r) : c ≠ 32 := by
  induction L with
  | nil => cases h
  | cons x L ih =>
    unfold ltr at h
    rw [List.dropWhile_cons] at h
    split at h
    · exact ih h
    · rename_i hx
      injection h with h1 h2
      subst h1
      simpa using hx
theorem rtr_cons {c : UInt8} {r : List UInt8} (h : c ≠ 32) : ∃ r', rtr (c :: r) = c :: r' := by
  unfold rtr
  rw [List.reverse_cons]
  have : ∃ q, (r.reverse ++ [c]).dropWhile (fun c => c == 32) = q ++ [c] := by
    induction r.reverse with
    | nil => exact ⟨[], by simp [h]⟩
    | cons x l ih =>
      rw [List.cons_append, List.dropWhile_cons]
      split
      · exact ih
      · exact ⟨x :: l, rfl⟩
  obtain ⟨q, hq⟩ := this
  exact ⟨q.reverse, by rw [hq]; simp⟩
theorem ltr_size {s : ByteArray} {c : UInt8} {r : List UInt8} (h : ltr s.data.toList = c :: r) : 0 < s.size := by
  rcases Nat.eq_zero_or_pos s.size with h0 | h0
  · have : s.data.toList = [] := List.eq_nil_of_length_eq_zero (by rw [data_len]; exact h0)
    rw [this] at h; cases h
  · exact h0

set_option maxRecDepth 100000 in
set_option maxHeartbeats 1000000 in
theorem rComment_c (s : ByteArray) (hs : s.size ≤ 1000000) (old : Bool) (w : World) : Calls Tryz.prog 17 #[.string s, .bool old] w fun e w' => e = .returned (.bool (cmQ s.data.toList old)) ∧ w = w' := by
  have Ht := Lib.hid (trim_c s hs w)
  rcases hl : ltr s.data.toList with _ | ⟨c, r⟩
  · have Hx := Lib.hid (show cmQ s.data.toList old = true by unfold cmQ; rw [hl])
    have Hr := Lib.hid (show rtr (ltr s.data.toList) = [] by rw [hl]; rfl)
    clear hl
    go_enter Tryz.func17, Tryz.ntmps17
    go_wp2_with fail
    refine Ht.out.mono ?_
    rw [Hr.out]
    rintro e w' ⟨rfl, rfl⟩
    go_wp2
    go_ret
    exact ⟨ret_b (by rw [Hx.out]), rfl⟩
  · have h0 := ltr_size hl
    obtain ⟨r', hr'⟩ := rtr_cons (r := r) (ltr_head hl)
    obtain ⟨o, ho⟩ : ∃ o : ByteArray, o = ⟨(c :: r').toArray⟩ := ⟨_, rfl⟩
    have Hr := Lib.hid (show (⟨(rtr (ltr s.data.toList)).toArray⟩ : ByteArray) = o by rw [hl, hr', ho])
    have hos : 0 < o.size := by
      have : o.size = (c :: r').length := by rw [ho]; rfl
      rw [this]; simp
    have hoc : o[0] = c := by subst ho; rfl
    have hon : (o.toList == []) = false := by
      rw [Lib.toList_data, ho]; rfl
    have hb0 := bt_get s 0 h0
    cases old
    · have Hx := Lib.hid (show cmQ s.data.toList false = ((o[0].toNat : Int) == 33) by
        unfold cmQ; rw [hl, hoc, Bool.eq_iff_iff]; simp; omega)
      clear hl hr' ho hoc hb0
      go_enter Tryz.func17, Tryz.ntmps17
      go_wp2_with fail
      refine Ht.out.mono ?_
      rw [Hr.out]
      rintro e w' ⟨rfl, rfl⟩
      go_wp2
      go_ret
      exact ⟨ret_b (by rw [Hx.out]), rfl⟩
    · have Hx := Lib.hid (show cmQ s.data.toList true = decide (s[0].toNat = 67 ∨ s[0].toNat = 99 ∨ s[0].toNat = 42 ∨ s[0].toNat = 33) by
        unfold cmQ; rw [hl, hb0]; rfl)
      clear hl hr' ho hoc hb0
      obtain ⟨b1, hb1⟩ : ∃ b, ((s[0].toNat : Int) == 67) = b := ⟨_, rfl⟩
      obtain ⟨b2, hb2⟩ : ∃ b, ((s[0].toNat : Int) == 99) = b := ⟨_, rfl⟩
      obtain ⟨b3, hb3⟩ : ∃ b, ((s[0].toNat : Int) == 42) = b := ⟨_, rfl⟩
      obtain ⟨b4, hb4⟩ : ∃ b, ((s[0].toNat : Int) == 33) = b := ⟨_, rfl⟩
      have Hy := Lib.hid (show cmQ s.data.toList true = (b1 || b2 || b3 || b4) by
        rw [Hx.out, ← hb1, ← hb2, ← hb3, ← hb4, Bool.eq_iff_iff]; simp; omega)
      cases b1 <;> cases b2 <;> cases b3 <;> cases b4
      all_goals
        go_enter Tryz.func17, Tryz.ntmps17
        go_wp2_with fail
        refine Ht.out.mono ?_
        rw [Hr.out]
        rintro e w' ⟨rfl, rfl⟩
        go_wp2
        go_ret
        exact ⟨ret_b (by rw [Hy.out]; rfl), rfl⟩
end Go.Proofs.YtdandmbgdndnjaaGreatDoor
