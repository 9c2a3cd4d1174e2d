/- Contracts of the document's answer, further: how long an exponent is; whether a point belongs to no number. -/
import Derived.Test.YtcafnpfhjiaolaaDoorRefB
namespace Go.Proofs.YtcafnpfhjiaolaaDoor
open Go.RowKit

/-- How long an exponent at a place is. -/
def powN (L : List UInt8) (i : Nat) : Nat :=
  if cE (bt L i) = true then
    let n := if cS (bt L (i + 1)) = true then 2 else 1
    let k := rn cD L (i + n) - (i + n)
    if k = 0 then 0 else n + min k 3
  else 0
theorem cE_cases {c : Nat} (h : cE c = true) : c = 101 ∨ c = 69 ∨ c = 100 ∨ c = 68 := by unfold cE at h; simpa using h
theorem cE_no {c : Nat} (h : cE c = false) : ((c : Int) != 101) = true ∧ ((c : Int) != 69) = true ∧ ((c : Int) != 100) = true ∧ ((c : Int) != 68) = true := by
  unfold cE at h; simp at h ⊢; omega
theorem cS_cases {c : Nat} (h : cS c = true) : c = 43 ∨ c = 45 := by unfold cS at h; simpa using h
theorem cS_no {c : Nat} (h : cS c = false) : ((c : Int) == 43) = false ∧ ((c : Int) == 45) = false := by
  unfold cS at h; simp at h ⊢; omega

set_option maxRecDepth 100000 in
set_option maxHeartbeats 4000000 in
theorem power_c (s : ByteArray) (i : Nat) (hi : i ≤ 500000) (hs : s.size ≤ 500000) (w : World) :
    Calls Tryd.prog 59 #[.string s, .int .i64 (i : Int)] w fun e w' => e = .returned (.int .i64 (powN s.data.toList i : Int)) ∧ w = w' := by
  have ha0 := Lib.hid (rAt_c s i w)
  have ha1 := Lib.hid (rAt_c s (i + 1) w)
  rcases h1 : cE (bt s.data.toList i) with _ | _
  · have Hx := Lib.hid (show powN s.data.toList i = 0 by unfold powN; rw [h1]; rfl)
    obtain ⟨c1, c2, c3, c4⟩ := cE_no h1
    generalize bt s.data.toList i = c at *
    clear h1
    go_enter Tryd.func59, Tryd.ntmps59
    go_wp2_with fail
    refine ha0.out.mono ?_
    rintro e w' ⟨rfl, rfl⟩
    go_wp2
    go_ret
    exact ⟨ret_i (by rw [Hx.out]; rfl), rfl⟩
  · have key : ∀ n, (n = if cS (bt s.data.toList (i + 1)) = true then 2 else 1) → ∃ k : Nat, k ≤ 1000000 ∧ powN s.data.toList i = (if k = 0 then 0 else n + min k 3) ∧ (Calls Tryd.prog 57 #[.string s, .int .i64 ((i + n : Nat) : Int)] w fun e w' => e = .returned (.int .i64 (k : Int)) ∧ w = w') := by
      intro n hn
      have hn2 : n ≤ 2 := by rw [hn]; split <;> omega
      refine ⟨rn cD s.data.toList (i + n) - (i + n), ?_, ?_, digits_c s (i + n) (by omega) (by omega) w⟩
      · by_cases hle : i + n ≤ s.data.toList.length
        · have := rn_le cD s.data.toList (i + n) hle
          simp only [Array.length_toList, ByteArray.size_data] at this
          omega
        · rw [rn_stop fun h => absurd h (by omega)]; omega
      · unfold powN
        rw [h1, hn]
        rfl
    obtain ⟨n, hn⟩ : ∃ n, n = if cS (bt s.data.toList (i + 1)) = true then 2 else 1 := ⟨_, rfl⟩
    obtain ⟨k, hk, hx, hd⟩ := key n hn
    clear key
    have Hx := Lib.hid hx; have Hd := Lib.hid hd
    have h1' := cE_cases h1
    clear hx hd h1
    rcases h2 : cS (bt s.data.toList (i + 1)) with _ | _
    · rw [h2] at hn
      obtain rfl : n = 1 := by simpa using hn
      obtain ⟨d1, d2⟩ := cS_no h2
      clear h2 hn
      generalize bt s.data.toList i = c at *
      generalize bt s.data.toList (i + 1) = c' at *
      obtain ⟨b, hb, hbb⟩ : ∃ b : Bool, ((k : Int) == 0) = b ∧ (b = true ↔ k = 0) := ⟨_, rfl, by simp⟩
      rcases h1' with rfl | rfl | rfl | rfl
      all_goals
        cases b
        all_goals
          simp only [Bool.false_eq_true, false_iff, true_iff] at hbb
          go_enter Tryd.func59, Tryd.ntmps59
          go_wp2_with fail
          refine ha0.out.mono ?_
          rintro e w' ⟨rfl, rfl⟩
          go_wp2_with fail
          refine ha1.out.mono ?_
          rintro e w' ⟨rfl, rfl⟩
          go_wp2_with fail
          refine Hd.out.mono ?_
          rintro e w' ⟨rfl, rfl⟩
          go_wp2
          all_goals
            go_ret
            first
              | exact ⟨ret_i (by rw [Hx.out, if_pos hbb]; rfl), rfl⟩
              | exact ⟨ret_i (by rw [Hx.out, if_neg hbb]; omega), rfl⟩
    · rw [h2] at hn
      obtain rfl : n = 2 := by simpa using hn
      have h2' := cS_cases h2
      clear h2 hn
      generalize bt s.data.toList i = c at *
      generalize bt s.data.toList (i + 1) = c' at *
      obtain ⟨b, hb, hbb⟩ : ∃ b : Bool, ((k : Int) == 0) = b ∧ (b = true ↔ k = 0) := ⟨_, rfl, by simp⟩
      rcases h1' with rfl | rfl | rfl | rfl <;> rcases h2' with rfl | rfl
      all_goals
        cases b
        all_goals
          simp only [Bool.false_eq_true, false_iff, true_iff] at hbb
          go_enter Tryd.func59, Tryd.ntmps59
          go_wp2_with fail
          refine ha0.out.mono ?_
          rintro e w' ⟨rfl, rfl⟩
          go_wp2_with fail
          refine ha1.out.mono ?_
          rintro e w' ⟨rfl, rfl⟩
          go_wp2_with fail
          refine Hd.out.mono ?_
          rintro e w' ⟨rfl, rfl⟩
          go_wp2
          all_goals
            go_ret
            first
              | exact ⟨ret_i (by rw [Hx.out, if_pos hbb]; rfl), rfl⟩
              | exact ⟨ret_i (by rw [Hx.out, if_neg hbb]; omega), rfl⟩

set_option maxRecDepth 100000 in
set_option maxHeartbeats 4000000 in
theorem stray_c (s : ByteArray) (i : Nat) (hi : i ≤ 500000) (m : Int) (w : World) :
    Calls Tryd.prog 58 #[.string s, .int .i64 (i : Int), .int .i64 m] w fun e w' => e = .returned (.bool (decide (0 < m) && cO (bt s.data.toList (i + 1)))) ∧ w = w' := by
  have ha1 := Lib.hid (rAt_c s (i + 1) w)
  unfold cO
  generalize bt s.data.toList (i + 1) = c at *
  rcases hm : decide (0 < m) with _ | _
  · go_enter Tryd.func58, Tryd.ntmps58
    go_wp2_with fail
    refine ha1.out.mono ?_
    rintro e w' ⟨rfl, rfl⟩
    go_wp2
    go_ret
    exact ⟨ret_b (by simp), rfl⟩
  · rcases hl : cL c with _ | _
    · have Hl := Lib.hid hl; clear hl
      go_enter Tryd.func58, Tryd.ntmps58
      go_wp2_with fail
      refine ha1.out.mono ?_
      rintro e w' ⟨rfl, rfl⟩
      go_wp2_with (go_at_call 33; refine (rLetter_c _ _).mono ?_; rw [Hl.out]; rintro e w' ⟨rfl, rfl⟩)
      go_ret
      exact ⟨ret_b (by simp), rfl⟩
    · have Hl := Lib.hid hl; clear hl
      rcases he : cE c with _ | _
      · obtain ⟨c1, c2, c3, c4⟩ := cE_no he
        clear he
        go_enter Tryd.func58, Tryd.ntmps58
        go_wp2_with fail
        refine ha1.out.mono ?_
        rintro e w' ⟨rfl, rfl⟩
        go_wp2_with (go_at_call 33; refine (rLetter_c _ _).mono ?_; rw [Hl.out]; rintro e w' ⟨rfl, rfl⟩)
        go_ret
        exact ⟨ret_b (by simp), rfl⟩
      · rcases cE_cases he with rfl | rfl | rfl | rfl
        all_goals
          clear he
          go_enter Tryd.func58, Tryd.ntmps58
          go_wp2_with fail
          refine ha1.out.mono ?_
          rintro e w' ⟨rfl, rfl⟩
          go_wp2_with (go_at_call 33; refine (rLetter_c _ _).mono ?_; rw [Hl.out]; rintro e w' ⟨rfl, rfl⟩)
          go_ret
          exact ⟨ret_b (by simp), rfl⟩
end Go.Proofs.YtcafnpfhjiaolaaDoor
