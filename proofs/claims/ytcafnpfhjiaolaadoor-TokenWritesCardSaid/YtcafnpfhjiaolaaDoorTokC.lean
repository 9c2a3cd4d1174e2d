/- Contracts of package token's pointBelongs, exponentEnd and readName. -/
import Derived.Test.YtcafnpfhjiaolaaDoorTokB
namespace Go.Proofs.YtcafnpfhjiaolaaDoor
open Go.RowKit

/-- What the readers answer. -/
def tokV : Option (Tok × Nat) → Value
  | some t => .tuple #[tkv t.1, .int .i64 (t.2 : Int), .bool true]
  | none => .tuple #[noTk, .int .i64 0, .bool false]

set_option maxHeartbeats 1000000 in
theorem pointBelongs_c (s : ByteArray) (i : Nat) (hi : i ≤ s.size) (hs : s.size ≤ 1000000) (ha : Asc s) (w : World) (ht : TB w) :
    Calls Tryd.prog 49 #[.string s, .int .i64 (i : Int)] w fun e w' => e = .returned (.bool (pbP s.data.toList i)) ∧ Below w.heap.size w w' := by
  unfold pbP
  generalize h1 : eqB 46 (bt s.data.toList i) = b1
  generalize h2 : cO (bt s.data.toList (i + 1)) = b2
  have H1 := Lib.hid h1; have H2 := Lib.hid h2; clear h1 h2
  have hw := wordAt_c s i hi hs ha w ht
  generalize wordP s.data.toList i = o at *
  have Hw := Lib.hid hw
  clear ha ht hw
  cases b1
  · go_enter Tryd.func49, Tryd.ntmps49
    go_wp2_with fail
    refine (holdPoint_c s i _).mono ?_
    rw [H1.out]
    rintro e w' ⟨rfl, rfl⟩
    go_wp2
    go_ret
    exact ⟨ret_b (by simp), Below.refl _ _⟩
  cases b2
  · go_enter Tryd.func49, Tryd.ntmps49
    go_wp2_with fail
    refine (holdPoint_c s i _).mono ?_
    rw [H1.out]
    rintro e w' ⟨rfl, rfl⟩
    go_wp2_with fail
    refine (holdOther_c s (i + 1) _).mono ?_
    rw [H2.out]
    rintro e w' ⟨rfl, rfl⟩
    go_wp2_with fail
    refine Hw.out.mono ?_
    rintro e w' ⟨rfl, hb⟩
    rcases o with _ | t
    · simp only [wordV]
      go_wp2
      go_ret
      exact ⟨ret_b (by simp), hb.alloc hb.size _⟩
    · simp only [wordV]
      go_wp2
      go_ret
      exact ⟨ret_b (by simp), hb.alloc hb.size _⟩
  · go_enter Tryd.func49, Tryd.ntmps49
    go_wp2_with fail
    refine (holdPoint_c s i _).mono ?_
    rw [H1.out]
    rintro e w' ⟨rfl, rfl⟩
    go_wp2_with fail
    refine (holdOther_c s (i + 1) _).mono ?_
    rw [H2.out]
    rintro e w' ⟨rfl, rfl⟩
    go_wp2
    go_ret
    exact ⟨ret_b (by simp), Below.refl _ _⟩

theorem in_of_bt {p : Nat → Bool} (h0 : p 0 = false) {s : ByteArray} {i : Nat} (h : p (bt s.data.toList i) = true) : i < s.size := by
  rcases Nat.lt_or_ge i s.size with h1 | h1
  · exact h1
  · rw [bt_out (by simpa using h1), h0] at h; cases h

set_option maxHeartbeats 1000000 in
theorem exponentEnd_c (s : ByteArray) (i : Nat) (hs : s.size ≤ 1000000) (w : World) :
    Calls Tryd.prog 50 #[.string s, .int .i64 (i : Int)] w fun e w' => e = .returned (.int .i64 (expP s.data.toList i : Int)) ∧ w = w' := by
  rcases h1 : cE (bt s.data.toList i) with _ | _
  · have hst := Lib.hid (show expP s.data.toList i = i by unfold expP; rw [h1]; rfl)
    have H1 := Lib.hid h1; clear h1
    go_enter Tryd.func50, Tryd.ntmps50
    go_wp2_with fail
    refine (holdExp_c s i _).mono ?_
    rw [H1.out]
    rintro e w' ⟨rfl, rfl⟩
    go_wp2
    go_ret
    exact ⟨ret_i (by rw [hst.out]), rfl⟩
  · have hlt := in_of_bt (p := cE) rfl h1
    rcases h2 : cS (bt s.data.toList (i + 1)) with _ | _
    · have hlt2 : True := trivial
      have hex := show expP s.data.toList i = if rn cD s.data.toList (i + 1) = i + 1 ∨ i + 1 + 3 < rn cD s.data.toList (i + 1) then i else rn cD s.data.toList (i + 1) by unfold expP; rw [h1, h2]; rfl
      have hr := runDigit_c s (i + 1) (by omega) hs w
      have hg := rn_ge cD s.data.toList (i + 1)
      have hl := rn_le cD s.data.toList (i + 1) (by simp; omega)
      simp only [Array.length_toList, ByteArray.size_data] at hl
      generalize rn cD s.data.toList (i + 1) = r at *
      have Hx := Lib.hid hex; have Hr := Lib.hid hr; have H1 := Lib.hid h1; have H2 := Lib.hid h2; clear h1 h2 hex hr
      obtain ⟨b, hb, hbb⟩ : ∃ b : Bool, ((r : Int) == (i : Int) + 1) = b ∧ (b = true ↔ r = i + 1) := ⟨_, rfl, by simp; omega⟩
      cases b
      all_goals
        simp only [Bool.false_eq_true, false_iff, true_iff] at hbb
        go_enter Tryd.func50, Tryd.ntmps50
        go_wp2_with fail
        refine (holdExp_c s i _).mono ?_
        rw [H1.out]
        rintro e w' ⟨rfl, rfl⟩
        go_wp2_with fail
        refine (holdSign_c s (i + 1) _).mono ?_
        rw [H2.out]
        rintro e w' ⟨rfl, rfl⟩
        go_wp2_with fail
        refine Hr.out.mono ?_
        rintro e w' ⟨rfl, rfl⟩
        go_wp2
        all_goals
          go_ret
          exact ⟨ret_i (by rw [Hx.out]; split <;> omega), rfl⟩
    · have hlt2 := in_of_bt (p := cS) rfl h2
      have hex := show expP s.data.toList i = if rn cD s.data.toList (i + 2) = i + 2 ∨ i + 2 + 3 < rn cD s.data.toList (i + 2) then i else rn cD s.data.toList (i + 2) by unfold expP; rw [h1, h2]; rfl
      have hr := runDigit_c s (i + 2) (by omega) hs w
      have hg := rn_ge cD s.data.toList (i + 2)
      have hl := rn_le cD s.data.toList (i + 2) (by simp; omega)
      simp only [Array.length_toList, ByteArray.size_data] at hl
      generalize rn cD s.data.toList (i + 2) = r at *
      have Hx := Lib.hid hex; have Hr := Lib.hid hr; have H1 := Lib.hid h1; have H2 := Lib.hid h2; clear h1 h2 hex hr
      obtain ⟨b, hb, hbb⟩ : ∃ b : Bool, ((r : Int) == (i : Int) + 1 + 1) = b ∧ (b = true ↔ r = i + 2) := ⟨_, rfl, by simp; omega⟩
      cases b
      all_goals
        simp only [Bool.false_eq_true, false_iff, true_iff] at hbb
        go_enter Tryd.func50, Tryd.ntmps50
        go_wp2_with fail
        refine (holdExp_c s i _).mono ?_
        rw [H1.out]
        rintro e w' ⟨rfl, rfl⟩
        go_wp2_with fail
        refine (holdSign_c s (i + 1) _).mono ?_
        rw [H2.out]
        rintro e w' ⟨rfl, rfl⟩
        go_wp2_with fail
        refine Hr.out.mono ?_
        rintro e w' ⟨rfl, rfl⟩
        go_wp2
        all_goals
          go_ret
          exact ⟨ret_i (by rw [Hx.out]; split <;> omega), rfl⟩

/-- A reader's result, as it lies in its box. -/
theorem res27 (tm : Array Value) (R : Nat) (a b : Value) (n : Int) (c : Bool) (w : World) (hp : tm[4]?.getD undef = .pointer (some ⟨R, 0, none⟩)) (h5 : tm[5]?.getD undef = .int .i64 n) (h6 : tm[6]?.getD undef = .bool c) (h : Has w R [a, b]) :
    (results Tryd.f27 tm).run Tryd.prog w = .ok (.tuple #[.agg #[a, b], .int .i64 n, .bool c]) w := by
  obtain ⟨h0, h1⟩ := h.c2
  simp [results, Tryd.results27, go_sem, hp, h5, h6, h0, h1]

set_option maxHeartbeats 1000000 in
theorem readName_c (s : ByteArray) (i : Nat) (hi : i ≤ s.size) (hs : s.size ≤ 1000000) (ha : Asc s) (w : World) :
    Calls Tryd.prog 27 #[.string s, .int .i64 (i : Int)] w fun e w' => e = .returned (tokV (nameP s.data.toList i)) ∧ Below w.heap.size w w' := by
  have hR := Has.new w [.string ⟨#[]⟩, .string ⟨#[]⟩] 30
  have hB : Below w.heap.size w (w.alloc (.cells #[.string ⟨#[]⟩, .string ⟨#[]⟩] 30)) := (Below.refl _ _).alloc (Nat.le_refl _) _
  have hr := runName_c s i hi hs (w.alloc (.cells #[.string ⟨#[]⟩, .string ⟨#[]⟩] 30))
  have hg := rn_ge cI s.data.toList i
  have hl := rn_le cI s.data.toList i (by simpa using hi)
  simp only [Array.length_toList, ByteArray.size_data] at hl
  have hex := show nameP s.data.toList i = if rn cI s.data.toList i - i ≤ 12 then some ((kName, low (sub s.data.toList i (rn cI s.data.toList i))), rn cI s.data.toList i) else none from rfl
  generalize rn cI s.data.toList i = r at *
  have Hx := Lib.hid hex; have Hr := Lib.hid hr; have Ha := Lib.hid ha; clear hex hr ha
  by_cases c : r - i ≤ 12
  · go_enter Tryd.func27, Tryd.ntmps27
    go_wp2_with fail
    refine Hr.out.mono ?_
    rintro e w1 ⟨rfl, rfl⟩
    go_wp2_with fail
    refine (lower_c s i _ hs Ha.out _).mono ?_
    rintro e w' ⟨rfl, hb⟩
    have hR := hR.keep hb
    have hB := bt_ hB hb
    obtain ⟨hr0, hr1⟩ := hR.c2
    obtain ⟨hq0, hq1⟩ := hR.f2
    clear hb
    go_wp2
    rw [Hx.out, if_pos c]
    exact bodyPost_ret (v := tokV (some ((kName, low (sub s.data.toList i r)), r))) (res27 _ _ _ _ _ _ _ rfl rfl rfl (hR.set2 _ _)) rfl ⟨rfl, (hB.st (Nat.le_refl _)).st (Nat.le_refl _)⟩
  · go_enter Tryd.func27, Tryd.ntmps27
    go_wp2_with fail
    refine Hr.out.mono ?_
    rintro e w1 ⟨rfl, rfl⟩
    go_wp2
    rw [Hx.out, if_neg c]
    exact bodyPost_ret (v := tokV none) (res27 _ _ _ _ _ _ _ rfl rfl rfl hR) rfl ⟨rfl, hB⟩
end Go.Proofs.YtcafnpfhjiaolaaDoor
