/- Contract of package token's readNumber: the number at a place. -/
import Derived.Test.YtcafnpfhjiaolaaDoorTokC
namespace Go.Proofs.YtcafnpfhjiaolaaDoor
open Go.RowKit

theorem numP_eq (L : List UInt8) (i e1 e2 e3 : Nat) (p : Bool) (h1 : e1 = rn cD L i) (hp : pbP L e1 = p) (h2 : e2 = if p = true then rn cD L (e1 + 1) else e1) (h3 : e3 = expP L e2) :
    numP L i = if (if (p || decide (e2 < e3)) = true then 60 else 10) < (if p = true then (e1 - i) + (e2 - e1 - 1) else e1 - i) ∨ cI (bt L e3) = true then none else some ((if (p || decide (e2 < e3)) = true then kReal else kInt, low (sub L i e3)), e3) := by
  subst h1 hp h2 h3
  rfl
theorem num_000 (L : List UInt8) (i e1 e2 e3 : Nat) (h1 : e1 = rn cD L i) (hp : pbP L e1 = false) (h2 : e2 = e1) (h3 : e3 = expP L e2) (hlt : ¬ e2 < e3) (hci : cI (bt L e3) = false) :
    numP L i = if 10 < e1 - i then none else some ((kInt, low (sub L i e3)), e3) := by
  rw [numP_eq L i e1 e2 e3 false h1 hp (by simpa using h2) h3, hci]
  simp [hlt]
theorem num_001 (L : List UInt8) (i e1 e2 e3 : Nat) (h1 : e1 = rn cD L i) (hp : pbP L e1 = false) (h2 : e2 = e1) (h3 : e3 = expP L e2) (hlt : ¬ e2 < e3) (hci : cI (bt L e3) = true) :
    numP L i = none := by
  rw [numP_eq L i e1 e2 e3 false h1 hp (by simpa using h2) h3, hci]
  simp [hlt]
theorem num_010 (L : List UInt8) (i e1 e2 e3 : Nat) (h1 : e1 = rn cD L i) (hp : pbP L e1 = false) (h2 : e2 = e1) (h3 : e3 = expP L e2) (hlt : e2 < e3) (hci : cI (bt L e3) = false) :
    numP L i = if 60 < e1 - i then none else some ((kReal, low (sub L i e3)), e3) := by
  rw [numP_eq L i e1 e2 e3 false h1 hp (by simpa using h2) h3, hci]
  simp [hlt]
theorem num_011 (L : List UInt8) (i e1 e2 e3 : Nat) (h1 : e1 = rn cD L i) (hp : pbP L e1 = false) (h2 : e2 = e1) (h3 : e3 = expP L e2) (hlt : e2 < e3) (hci : cI (bt L e3) = true) :
    numP L i = none := by
  rw [numP_eq L i e1 e2 e3 false h1 hp (by simpa using h2) h3, hci]
  simp [hlt]
theorem num_100 (L : List UInt8) (i e1 e2 e3 : Nat) (h1 : e1 = rn cD L i) (hp : pbP L e1 = true) (h2 : e2 = rn cD L (e1 + 1)) (h3 : e3 = expP L e2) (hlt : ¬ e2 < e3) (hci : cI (bt L e3) = false) :
    numP L i = if 60 < (e1 - i) + (e2 - e1 - 1) then none else some ((kReal, low (sub L i e3)), e3) := by
  rw [numP_eq L i e1 e2 e3 true h1 hp h2 h3, hci]
  simp [hlt]
theorem num_101 (L : List UInt8) (i e1 e2 e3 : Nat) (h1 : e1 = rn cD L i) (hp : pbP L e1 = true) (h2 : e2 = rn cD L (e1 + 1)) (h3 : e3 = expP L e2) (hlt : ¬ e2 < e3) (hci : cI (bt L e3) = true) :
    numP L i = none := by
  rw [numP_eq L i e1 e2 e3 true h1 hp h2 h3, hci]
  simp [hlt]
theorem num_110 (L : List UInt8) (i e1 e2 e3 : Nat) (h1 : e1 = rn cD L i) (hp : pbP L e1 = true) (h2 : e2 = rn cD L (e1 + 1)) (h3 : e3 = expP L e2) (hlt : e2 < e3) (hci : cI (bt L e3) = false) :
    numP L i = if 60 < (e1 - i) + (e2 - e1 - 1) then none else some ((kReal, low (sub L i e3)), e3) := by
  rw [numP_eq L i e1 e2 e3 true h1 hp h2 h3, hci]
  simp [hlt]
theorem num_111 (L : List UInt8) (i e1 e2 e3 : Nat) (h1 : e1 = rn cD L i) (hp : pbP L e1 = true) (h2 : e2 = rn cD L (e1 + 1)) (h3 : e3 = expP L e2) (hlt : e2 < e3) (hci : cI (bt L e3) = true) :
    numP L i = none := by
  rw [numP_eq L i e1 e2 e3 true h1 hp h2 h3, hci]
  simp [hlt]

theorem res30 (tm : Array Value) (R : Nat) (a b : Value) (n : Int) (c : Bool) (w : World) (hp : tm[4]?.getD undef = .pointer (some ⟨R, 0, none⟩)) (h5 : tm[5]?.getD undef = .int .i64 n) (h6 : tm[6]?.getD undef = .bool c) (h : Has w R [a, b]) :
    (results Tryd.f30 tm).run Tryd.prog w = .ok (.tuple #[.agg #[a, b], .int .i64 n, .bool c]) w := by
  obtain ⟨h0, h1⟩ := h.c2
  simp [results, Tryd.results30, go_sem, hp, h5, h6, h0, h1]

set_option maxRecDepth 100000 in
set_option maxHeartbeats 1000000 in
theorem readNumber_000 (s : ByteArray) (i e1 e2 e3 : Nat) (hi : i ≤ s.size) (hs : s.size ≤ 1000000) (ha : Asc s) (w : World) (ht : TB w)
    (h1 : e1 = rn cD s.data.toList i) (hp : pbP s.data.toList e1 = false) (h2 : e2 = e1) (h3 : e3 = expP s.data.toList e2) (hlt : ¬ e2 < e3) (hci : cI (bt s.data.toList e3) = false) :
    Calls Tryd.prog 30 #[.string s, .int .i64 (i : Int)] w fun e w' => e = .returned (tokV (numP s.data.toList i)) ∧ Below w.heap.size w w' := by
  have hR := Has.new w [.string ⟨#[]⟩, .string ⟨#[]⟩] 30
  have hB : Below w.heap.size w (w.alloc (.cells #[.string ⟨#[]⟩, .string ⟨#[]⟩] 30)) := (Below.refl _ _).alloc (Nat.le_refl _) _
  have hl0 : s.data.toList.length = s.size := by simp
  have hex := num_000 s.data.toList i e1 e2 e3 h1 hp h2 h3 hlt hci
  have hg1 := rn_ge cD s.data.toList i
  have hl1 := rn_le cD s.data.toList i (by omega)
  have Ht := Lib.hid (ht.keep ((Below.refl _ _).alloc (Nat.le_refl _) (.cells #[.string ⟨#[]⟩, .string ⟨#[]⟩] 30)))
  have Hr1 := Lib.hid (runDigit_c s i hi hs (w.alloc (.cells #[.string ⟨#[]⟩, .string ⟨#[]⟩] 30)))
  rw [← h1] at hg1 hl1
  have H1 := Lib.hid h1; have Hp := Lib.hid hp; have Hci := Lib.hid hci
  have hg2 : e1 ≤ e2 := by omega
  have hl2 : e2 ≤ s.data.toList.length := by omega
  have hg3 := expP_ge s.data.toList e2
  have hl3 := expP_le s.data.toList e2 hl2
  rw [← h3] at hg3 hl3
  rw [hl0] at *
  have H2 := Lib.hid h2; have H3 := Lib.hid h3; have Hx := Lib.hid hex; have Ha := Lib.hid ha
  clear h1 hp h2 h3 hci ht hex ha hl0
  obtain rfl : e1 = e2 := H2.out.symm
  obtain rfl : e3 = e1 := by omega
  go_enter Tryd.func30, Tryd.ntmps30
  go_wp2_with fail
  refine Hr1.out.mono ?_
  rw [← H1.out]
  rintro e w1 ⟨rfl, rfl⟩
  go_wp2_with fail
  refine (pointBelongs_c s _ (by omega) hs Ha.out _ Ht.out).mono ?_
  rw [Hp.out]
  rintro e w1 ⟨rfl, hb⟩
  have hR := hR.keep hb
  have hB := bt_ hB hb
  clear hb
  go_wp2_with fail
  refine (exponentEnd_c s _ hs _).mono ?_
  rw [← H3.out]
  rintro e w1 ⟨rfl, rfl⟩
  obtain ⟨hr0, hr1⟩ := hR.c2
  obtain ⟨hq0, hq1⟩ := hR.f2
  go_wp2_with (go_at_call 29; refine (holdName_c s _ _).mono ?_; rw [Hci.out]; rintro e w1 ⟨rfl, rfl⟩)
  all_goals first
    | (rw [Hx.out, if_pos (by omega)]
       exact bodyPost_ret (v := tokV none) (res30 _ _ _ _ _ _ _ rfl rfl rfl (hR.set2 _ _)) rfl ⟨rfl, (hB.st (Nat.le_refl _)).st (Nat.le_refl _)⟩)
    | (refine (lower_c s i e3 hs Ha.out _).mono ?_
       rintro e w' ⟨rfl, hb⟩
       have hR := hR.keep hb
       have hB := bt_ hB hb
       obtain ⟨hr0, hr1⟩ := hR.c2
       obtain ⟨hq0, hq1⟩ := hR.f2
       clear hb
       go_wp2
       rw [Hx.out, if_neg (by omega)]
       exact bodyPost_ret (v := tokV (some ((kInt, low (sub s.data.toList i e3)), e3))) (res30 _ _ _ _ _ _ _ rfl rfl rfl (hR.set2 _ _)) rfl ⟨rfl, (hB.st (Nat.le_refl _)).st (Nat.le_refl _)⟩)

set_option maxRecDepth 100000 in
set_option maxHeartbeats 1000000 in
theorem readNumber_001 (s : ByteArray) (i e1 e2 e3 : Nat) (hi : i ≤ s.size) (hs : s.size ≤ 1000000) (ha : Asc s) (w : World) (ht : TB w)
    (h1 : e1 = rn cD s.data.toList i) (hp : pbP s.data.toList e1 = false) (h2 : e2 = e1) (h3 : e3 = expP s.data.toList e2) (hlt : ¬ e2 < e3) (hci : cI (bt s.data.toList e3) = true) :
    Calls Tryd.prog 30 #[.string s, .int .i64 (i : Int)] w fun e w' => e = .returned (tokV (numP s.data.toList i)) ∧ Below w.heap.size w w' := by
  have hR := Has.new w [.string ⟨#[]⟩, .string ⟨#[]⟩] 30
  have hB : Below w.heap.size w (w.alloc (.cells #[.string ⟨#[]⟩, .string ⟨#[]⟩] 30)) := (Below.refl _ _).alloc (Nat.le_refl _) _
  have hl0 : s.data.toList.length = s.size := by simp
  have hex := num_001 s.data.toList i e1 e2 e3 h1 hp h2 h3 hlt hci
  have hg1 := rn_ge cD s.data.toList i
  have hl1 := rn_le cD s.data.toList i (by omega)
  have Ht := Lib.hid (ht.keep ((Below.refl _ _).alloc (Nat.le_refl _) (.cells #[.string ⟨#[]⟩, .string ⟨#[]⟩] 30)))
  have Hr1 := Lib.hid (runDigit_c s i hi hs (w.alloc (.cells #[.string ⟨#[]⟩, .string ⟨#[]⟩] 30)))
  rw [← h1] at hg1 hl1
  have H1 := Lib.hid h1; have Hp := Lib.hid hp; have Hci := Lib.hid hci
  have hg2 : e1 ≤ e2 := by omega
  have hl2 : e2 ≤ s.data.toList.length := by omega
  have hg3 := expP_ge s.data.toList e2
  have hl3 := expP_le s.data.toList e2 hl2
  rw [← h3] at hg3 hl3
  rw [hl0] at *
  have H2 := Lib.hid h2; have H3 := Lib.hid h3; have Hx := Lib.hid hex; have Ha := Lib.hid ha
  clear h1 hp h2 h3 hci ht hex ha hl0
  obtain rfl : e1 = e2 := H2.out.symm
  obtain rfl : e3 = e1 := by omega
  go_enter Tryd.func30, Tryd.ntmps30
  go_wp2_with fail
  refine Hr1.out.mono ?_
  rw [← H1.out]
  rintro e w1 ⟨rfl, rfl⟩
  go_wp2_with fail
  refine (pointBelongs_c s _ (by omega) hs Ha.out _ Ht.out).mono ?_
  rw [Hp.out]
  rintro e w1 ⟨rfl, hb⟩
  have hR := hR.keep hb
  have hB := bt_ hB hb
  clear hb
  go_wp2_with fail
  refine (exponentEnd_c s _ hs _).mono ?_
  rw [← H3.out]
  rintro e w1 ⟨rfl, rfl⟩
  obtain ⟨hr0, hr1⟩ := hR.c2
  obtain ⟨hq0, hq1⟩ := hR.f2
  go_wp2_with (go_at_call 29; refine (holdName_c s _ _).mono ?_; rw [Hci.out]; rintro e w1 ⟨rfl, rfl⟩)
  all_goals
    rw [Hx.out]
    exact bodyPost_ret (v := tokV none) (res30 _ _ _ _ _ _ _ rfl rfl rfl (hR.set2 _ _)) rfl ⟨rfl, (hB.st (Nat.le_refl _)).st (Nat.le_refl _)⟩

set_option maxRecDepth 100000 in
set_option maxHeartbeats 1000000 in
theorem readNumber_010 (s : ByteArray) (i e1 e2 e3 : Nat) (hi : i ≤ s.size) (hs : s.size ≤ 1000000) (ha : Asc s) (w : World) (ht : TB w)
    (h1 : e1 = rn cD s.data.toList i) (hp : pbP s.data.toList e1 = false) (h2 : e2 = e1) (h3 : e3 = expP s.data.toList e2) (hlt : e2 < e3) (hci : cI (bt s.data.toList e3) = false) :
    Calls Tryd.prog 30 #[.string s, .int .i64 (i : Int)] w fun e w' => e = .returned (tokV (numP s.data.toList i)) ∧ Below w.heap.size w w' := by
  have hR := Has.new w [.string ⟨#[]⟩, .string ⟨#[]⟩] 30
  have hB : Below w.heap.size w (w.alloc (.cells #[.string ⟨#[]⟩, .string ⟨#[]⟩] 30)) := (Below.refl _ _).alloc (Nat.le_refl _) _
  have hl0 : s.data.toList.length = s.size := by simp
  have hex := num_010 s.data.toList i e1 e2 e3 h1 hp h2 h3 hlt hci
  have hg1 := rn_ge cD s.data.toList i
  have hl1 := rn_le cD s.data.toList i (by omega)
  have Ht := Lib.hid (ht.keep ((Below.refl _ _).alloc (Nat.le_refl _) (.cells #[.string ⟨#[]⟩, .string ⟨#[]⟩] 30)))
  have Hr1 := Lib.hid (runDigit_c s i hi hs (w.alloc (.cells #[.string ⟨#[]⟩, .string ⟨#[]⟩] 30)))
  rw [← h1] at hg1 hl1
  have H1 := Lib.hid h1; have Hp := Lib.hid hp; have Hci := Lib.hid hci
  have hg2 : e1 ≤ e2 := by omega
  have hl2 : e2 ≤ s.data.toList.length := by omega
  have hg3 := expP_ge s.data.toList e2
  have hl3 := expP_le s.data.toList e2 hl2
  rw [← h3] at hg3 hl3
  rw [hl0] at *
  have H2 := Lib.hid h2; have H3 := Lib.hid h3; have Hx := Lib.hid hex; have Ha := Lib.hid ha
  clear h1 hp h2 h3 hci ht hex ha hl0
  obtain rfl : e1 = e2 := H2.out.symm
  go_enter Tryd.func30, Tryd.ntmps30
  go_wp2_with fail
  refine Hr1.out.mono ?_
  rw [← H1.out]
  rintro e w1 ⟨rfl, rfl⟩
  go_wp2_with fail
  refine (pointBelongs_c s _ (by omega) hs Ha.out _ Ht.out).mono ?_
  rw [Hp.out]
  rintro e w1 ⟨rfl, hb⟩
  have hR := hR.keep hb
  have hB := bt_ hB hb
  clear hb
  go_wp2_with fail
  refine (exponentEnd_c s _ hs _).mono ?_
  rw [← H3.out]
  rintro e w1 ⟨rfl, rfl⟩
  obtain ⟨hr0, hr1⟩ := hR.c2
  obtain ⟨hq0, hq1⟩ := hR.f2
  go_wp2_with (go_at_call 29; refine (holdName_c s _ _).mono ?_; rw [Hci.out]; rintro e w1 ⟨rfl, rfl⟩)
  all_goals first
    | (rw [Hx.out, if_pos (by omega)]
       exact bodyPost_ret (v := tokV none) (res30 _ _ _ _ _ _ _ rfl rfl rfl (hR.set2 _ _)) rfl ⟨rfl, (hB.st (Nat.le_refl _)).st (Nat.le_refl _)⟩)
    | (refine (lower_c s i e3 hs Ha.out _).mono ?_
       rintro e w' ⟨rfl, hb⟩
       have hR := hR.keep hb
       have hB := bt_ hB hb
       obtain ⟨hr0, hr1⟩ := hR.c2
       obtain ⟨hq0, hq1⟩ := hR.f2
       clear hb
       go_wp2
       rw [Hx.out, if_neg (by omega)]
       exact bodyPost_ret (v := tokV (some ((kReal, low (sub s.data.toList i e3)), e3))) (res30 _ _ _ _ _ _ _ rfl rfl rfl (hR.set2 _ _)) rfl ⟨rfl, (hB.st (Nat.le_refl _)).st (Nat.le_refl _)⟩)

set_option maxRecDepth 100000 in
set_option maxHeartbeats 1000000 in
theorem readNumber_011 (s : ByteArray) (i e1 e2 e3 : Nat) (hi : i ≤ s.size) (hs : s.size ≤ 1000000) (ha : Asc s) (w : World) (ht : TB w)
    (h1 : e1 = rn cD s.data.toList i) (hp : pbP s.data.toList e1 = false) (h2 : e2 = e1) (h3 : e3 = expP s.data.toList e2) (hlt : e2 < e3) (hci : cI (bt s.data.toList e3) = true) :
    Calls Tryd.prog 30 #[.string s, .int .i64 (i : Int)] w fun e w' => e = .returned (tokV (numP s.data.toList i)) ∧ Below w.heap.size w w' := by
  have hR := Has.new w [.string ⟨#[]⟩, .string ⟨#[]⟩] 30
  have hB : Below w.heap.size w (w.alloc (.cells #[.string ⟨#[]⟩, .string ⟨#[]⟩] 30)) := (Below.refl _ _).alloc (Nat.le_refl _) _
  have hl0 : s.data.toList.length = s.size := by simp
  have hex := num_011 s.data.toList i e1 e2 e3 h1 hp h2 h3 hlt hci
  have hg1 := rn_ge cD s.data.toList i
  have hl1 := rn_le cD s.data.toList i (by omega)
  have Ht := Lib.hid (ht.keep ((Below.refl _ _).alloc (Nat.le_refl _) (.cells #[.string ⟨#[]⟩, .string ⟨#[]⟩] 30)))
  have Hr1 := Lib.hid (runDigit_c s i hi hs (w.alloc (.cells #[.string ⟨#[]⟩, .string ⟨#[]⟩] 30)))
  rw [← h1] at hg1 hl1
  have H1 := Lib.hid h1; have Hp := Lib.hid hp; have Hci := Lib.hid hci
  have hg2 : e1 ≤ e2 := by omega
  have hl2 : e2 ≤ s.data.toList.length := by omega
  have hg3 := expP_ge s.data.toList e2
  have hl3 := expP_le s.data.toList e2 hl2
  rw [← h3] at hg3 hl3
  rw [hl0] at *
  have H2 := Lib.hid h2; have H3 := Lib.hid h3; have Hx := Lib.hid hex; have Ha := Lib.hid ha
  clear h1 hp h2 h3 hci ht hex ha hl0
  obtain rfl : e1 = e2 := H2.out.symm
  go_enter Tryd.func30, Tryd.ntmps30
  go_wp2_with fail
  refine Hr1.out.mono ?_
  rw [← H1.out]
  rintro e w1 ⟨rfl, rfl⟩
  go_wp2_with fail
  refine (pointBelongs_c s _ (by omega) hs Ha.out _ Ht.out).mono ?_
  rw [Hp.out]
  rintro e w1 ⟨rfl, hb⟩
  have hR := hR.keep hb
  have hB := bt_ hB hb
  clear hb
  go_wp2_with fail
  refine (exponentEnd_c s _ hs _).mono ?_
  rw [← H3.out]
  rintro e w1 ⟨rfl, rfl⟩
  obtain ⟨hr0, hr1⟩ := hR.c2
  obtain ⟨hq0, hq1⟩ := hR.f2
  go_wp2_with (go_at_call 29; refine (holdName_c s _ _).mono ?_; rw [Hci.out]; rintro e w1 ⟨rfl, rfl⟩)
  all_goals
    rw [Hx.out]
    exact bodyPost_ret (v := tokV none) (res30 _ _ _ _ _ _ _ rfl rfl rfl (hR.set2 _ _)) rfl ⟨rfl, (hB.st (Nat.le_refl _)).st (Nat.le_refl _)⟩

set_option maxRecDepth 100000 in
set_option maxHeartbeats 1000000 in
theorem readNumber_100 (s : ByteArray) (i e1 e2 e3 : Nat) (hi : i ≤ s.size) (hs : s.size ≤ 1000000) (ha : Asc s) (w : World) (ht : TB w)
    (h1 : e1 = rn cD s.data.toList i) (hp : pbP s.data.toList e1 = true) (h2 : e2 = rn cD s.data.toList (e1 + 1)) (h3 : e3 = expP s.data.toList e2) (hlt : ¬ e2 < e3) (hci : cI (bt s.data.toList e3) = false) :
    Calls Tryd.prog 30 #[.string s, .int .i64 (i : Int)] w fun e w' => e = .returned (tokV (numP s.data.toList i)) ∧ Below w.heap.size w w' := by
  have hR := Has.new w [.string ⟨#[]⟩, .string ⟨#[]⟩] 30
  have hB : Below w.heap.size w (w.alloc (.cells #[.string ⟨#[]⟩, .string ⟨#[]⟩] 30)) := (Below.refl _ _).alloc (Nat.le_refl _) _
  have hl0 : s.data.toList.length = s.size := by simp
  have hex := num_100 s.data.toList i e1 e2 e3 h1 hp h2 h3 hlt hci
  have hg1 := rn_ge cD s.data.toList i
  have hl1 := rn_le cD s.data.toList i (by omega)
  have Ht := Lib.hid (ht.keep ((Below.refl _ _).alloc (Nat.le_refl _) (.cells #[.string ⟨#[]⟩, .string ⟨#[]⟩] 30)))
  have Hr1 := Lib.hid (runDigit_c s i hi hs (w.alloc (.cells #[.string ⟨#[]⟩, .string ⟨#[]⟩] 30)))
  rw [← h1] at hg1 hl1
  have H1 := Lib.hid h1; have Hp := Lib.hid hp; have Hci := Lib.hid hci
  have hin := pbP_in hp
  have hg2 := rn_ge cD s.data.toList (e1 + 1)
  have hl2 := rn_le cD s.data.toList (e1 + 1) (by omega)
  rw [← h2] at hg2 hl2
  have hg3 := expP_ge s.data.toList e2
  have hl3 := expP_le s.data.toList e2 hl2
  rw [← h3] at hg3 hl3
  rw [hl0] at *
  have H2 := Lib.hid h2; have H3 := Lib.hid h3; have Hx := Lib.hid hex; have Ha := Lib.hid ha
  clear h1 hp h2 h3 hci ht hex ha hl0
  obtain rfl : e3 = e2 := by omega
  go_enter Tryd.func30, Tryd.ntmps30
  go_wp2_with fail
  refine Hr1.out.mono ?_
  rw [← H1.out]
  rintro e w1 ⟨rfl, rfl⟩
  go_wp2_with fail
  refine (pointBelongs_c s _ (by omega) hs Ha.out _ Ht.out).mono ?_
  rw [Hp.out]
  rintro e w1 ⟨rfl, hb⟩
  have hR := hR.keep hb
  have hB := bt_ hB hb
  clear hb
  go_wp2_with fail
  refine (runDigit_c s (e1 + 1) (by omega) hs _).mono ?_
  rw [← H2.out]
  rintro e w1 ⟨rfl, rfl⟩
  go_wp2_with fail
  refine (exponentEnd_c s _ hs _).mono ?_
  rw [← H3.out]
  rintro e w1 ⟨rfl, rfl⟩
  obtain ⟨hr0, hr1⟩ := hR.c2
  obtain ⟨hq0, hq1⟩ := hR.f2
  go_wp2_with (go_at_call 29; refine (holdName_c s _ _).mono ?_; rw [Hci.out]; rintro e w1 ⟨rfl, rfl⟩)
  all_goals first
    | (rw [Hx.out, if_pos (by omega)]
       exact bodyPost_ret (v := tokV none) (res30 _ _ _ _ _ _ _ rfl rfl rfl (hR.set2 _ _)) rfl ⟨rfl, (hB.st (Nat.le_refl _)).st (Nat.le_refl _)⟩)
    | (refine (lower_c s i e3 hs Ha.out _).mono ?_
       rintro e w' ⟨rfl, hb⟩
       have hR := hR.keep hb
       have hB := bt_ hB hb
       obtain ⟨hr0, hr1⟩ := hR.c2
       obtain ⟨hq0, hq1⟩ := hR.f2
       clear hb
       go_wp2
       rw [Hx.out, if_neg (by omega)]
       exact bodyPost_ret (v := tokV (some ((kReal, low (sub s.data.toList i e3)), e3))) (res30 _ _ _ _ _ _ _ rfl rfl rfl (hR.set2 _ _)) rfl ⟨rfl, (hB.st (Nat.le_refl _)).st (Nat.le_refl _)⟩)

set_option maxRecDepth 100000 in
set_option maxHeartbeats 1000000 in
theorem readNumber_101 (s : ByteArray) (i e1 e2 e3 : Nat) (hi : i ≤ s.size) (hs : s.size ≤ 1000000) (ha : Asc s) (w : World) (ht : TB w)
    (h1 : e1 = rn cD s.data.toList i) (hp : pbP s.data.toList e1 = true) (h2 : e2 = rn cD s.data.toList (e1 + 1)) (h3 : e3 = expP s.data.toList e2) (hlt : ¬ e2 < e3) (hci : cI (bt s.data.toList e3) = true) :
    Calls Tryd.prog 30 #[.string s, .int .i64 (i : Int)] w fun e w' => e = .returned (tokV (numP s.data.toList i)) ∧ Below w.heap.size w w' := by
  have hR := Has.new w [.string ⟨#[]⟩, .string ⟨#[]⟩] 30
  have hB : Below w.heap.size w (w.alloc (.cells #[.string ⟨#[]⟩, .string ⟨#[]⟩] 30)) := (Below.refl _ _).alloc (Nat.le_refl _) _
  have hl0 : s.data.toList.length = s.size := by simp
  have hex := num_101 s.data.toList i e1 e2 e3 h1 hp h2 h3 hlt hci
  have hg1 := rn_ge cD s.data.toList i
  have hl1 := rn_le cD s.data.toList i (by omega)
  have Ht := Lib.hid (ht.keep ((Below.refl _ _).alloc (Nat.le_refl _) (.cells #[.string ⟨#[]⟩, .string ⟨#[]⟩] 30)))
  have Hr1 := Lib.hid (runDigit_c s i hi hs (w.alloc (.cells #[.string ⟨#[]⟩, .string ⟨#[]⟩] 30)))
  rw [← h1] at hg1 hl1
  have H1 := Lib.hid h1; have Hp := Lib.hid hp; have Hci := Lib.hid hci
  have hin := pbP_in hp
  have hg2 := rn_ge cD s.data.toList (e1 + 1)
  have hl2 := rn_le cD s.data.toList (e1 + 1) (by omega)
  rw [← h2] at hg2 hl2
  have hg3 := expP_ge s.data.toList e2
  have hl3 := expP_le s.data.toList e2 hl2
  rw [← h3] at hg3 hl3
  rw [hl0] at *
  have H2 := Lib.hid h2; have H3 := Lib.hid h3; have Hx := Lib.hid hex; have Ha := Lib.hid ha
  clear h1 hp h2 h3 hci ht hex ha hl0
  obtain rfl : e3 = e2 := by omega
  go_enter Tryd.func30, Tryd.ntmps30
  go_wp2_with fail
  refine Hr1.out.mono ?_
  rw [← H1.out]
  rintro e w1 ⟨rfl, rfl⟩
  go_wp2_with fail
  refine (pointBelongs_c s _ (by omega) hs Ha.out _ Ht.out).mono ?_
  rw [Hp.out]
  rintro e w1 ⟨rfl, hb⟩
  have hR := hR.keep hb
  have hB := bt_ hB hb
  clear hb
  go_wp2_with fail
  refine (runDigit_c s (e1 + 1) (by omega) hs _).mono ?_
  rw [← H2.out]
  rintro e w1 ⟨rfl, rfl⟩
  go_wp2_with fail
  refine (exponentEnd_c s _ hs _).mono ?_
  rw [← H3.out]
  rintro e w1 ⟨rfl, rfl⟩
  obtain ⟨hr0, hr1⟩ := hR.c2
  obtain ⟨hq0, hq1⟩ := hR.f2
  go_wp2_with (go_at_call 29; refine (holdName_c s _ _).mono ?_; rw [Hci.out]; rintro e w1 ⟨rfl, rfl⟩)
  all_goals
    rw [Hx.out]
    exact bodyPost_ret (v := tokV none) (res30 _ _ _ _ _ _ _ rfl rfl rfl (hR.set2 _ _)) rfl ⟨rfl, (hB.st (Nat.le_refl _)).st (Nat.le_refl _)⟩

set_option maxRecDepth 100000 in
set_option maxHeartbeats 1000000 in
theorem readNumber_110 (s : ByteArray) (i e1 e2 e3 : Nat) (hi : i ≤ s.size) (hs : s.size ≤ 1000000) (ha : Asc s) (w : World) (ht : TB w)
    (h1 : e1 = rn cD s.data.toList i) (hp : pbP s.data.toList e1 = true) (h2 : e2 = rn cD s.data.toList (e1 + 1)) (h3 : e3 = expP s.data.toList e2) (hlt : e2 < e3) (hci : cI (bt s.data.toList e3) = false) :
    Calls Tryd.prog 30 #[.string s, .int .i64 (i : Int)] w fun e w' => e = .returned (tokV (numP s.data.toList i)) ∧ Below w.heap.size w w' := by
  have hR := Has.new w [.string ⟨#[]⟩, .string ⟨#[]⟩] 30
  have hB : Below w.heap.size w (w.alloc (.cells #[.string ⟨#[]⟩, .string ⟨#[]⟩] 30)) := (Below.refl _ _).alloc (Nat.le_refl _) _
  have hl0 : s.data.toList.length = s.size := by simp
  have hex := num_110 s.data.toList i e1 e2 e3 h1 hp h2 h3 hlt hci
  have hg1 := rn_ge cD s.data.toList i
  have hl1 := rn_le cD s.data.toList i (by omega)
  have Ht := Lib.hid (ht.keep ((Below.refl _ _).alloc (Nat.le_refl _) (.cells #[.string ⟨#[]⟩, .string ⟨#[]⟩] 30)))
  have Hr1 := Lib.hid (runDigit_c s i hi hs (w.alloc (.cells #[.string ⟨#[]⟩, .string ⟨#[]⟩] 30)))
  rw [← h1] at hg1 hl1
  have H1 := Lib.hid h1; have Hp := Lib.hid hp; have Hci := Lib.hid hci
  have hin := pbP_in hp
  have hg2 := rn_ge cD s.data.toList (e1 + 1)
  have hl2 := rn_le cD s.data.toList (e1 + 1) (by omega)
  rw [← h2] at hg2 hl2
  have hg3 := expP_ge s.data.toList e2
  have hl3 := expP_le s.data.toList e2 hl2
  rw [← h3] at hg3 hl3
  rw [hl0] at *
  have H2 := Lib.hid h2; have H3 := Lib.hid h3; have Hx := Lib.hid hex; have Ha := Lib.hid ha
  clear h1 hp h2 h3 hci ht hex ha hl0
  go_enter Tryd.func30, Tryd.ntmps30
  go_wp2_with fail
  refine Hr1.out.mono ?_
  rw [← H1.out]
  rintro e w1 ⟨rfl, rfl⟩
  go_wp2_with fail
  refine (pointBelongs_c s _ (by omega) hs Ha.out _ Ht.out).mono ?_
  rw [Hp.out]
  rintro e w1 ⟨rfl, hb⟩
  have hR := hR.keep hb
  have hB := bt_ hB hb
  clear hb
  go_wp2_with fail
  refine (runDigit_c s (e1 + 1) (by omega) hs _).mono ?_
  rw [← H2.out]
  rintro e w1 ⟨rfl, rfl⟩
  go_wp2_with fail
  refine (exponentEnd_c s _ hs _).mono ?_
  rw [← H3.out]
  rintro e w1 ⟨rfl, rfl⟩
  obtain ⟨hr0, hr1⟩ := hR.c2
  obtain ⟨hq0, hq1⟩ := hR.f2
  go_wp2_with (go_at_call 29; refine (holdName_c s _ _).mono ?_; rw [Hci.out]; rintro e w1 ⟨rfl, rfl⟩)
  all_goals first
    | (rw [Hx.out, if_pos (by omega)]
       exact bodyPost_ret (v := tokV none) (res30 _ _ _ _ _ _ _ rfl rfl rfl (hR.set2 _ _)) rfl ⟨rfl, (hB.st (Nat.le_refl _)).st (Nat.le_refl _)⟩)
    | (refine (lower_c s i e3 hs Ha.out _).mono ?_
       rintro e w' ⟨rfl, hb⟩
       have hR := hR.keep hb
       have hB := bt_ hB hb
       obtain ⟨hr0, hr1⟩ := hR.c2
       obtain ⟨hq0, hq1⟩ := hR.f2
       clear hb
       go_wp2
       rw [Hx.out, if_neg (by omega)]
       exact bodyPost_ret (v := tokV (some ((kReal, low (sub s.data.toList i e3)), e3))) (res30 _ _ _ _ _ _ _ rfl rfl rfl (hR.set2 _ _)) rfl ⟨rfl, (hB.st (Nat.le_refl _)).st (Nat.le_refl _)⟩)

set_option maxRecDepth 100000 in
set_option maxHeartbeats 1000000 in
theorem readNumber_111 (s : ByteArray) (i e1 e2 e3 : Nat) (hi : i ≤ s.size) (hs : s.size ≤ 1000000) (ha : Asc s) (w : World) (ht : TB w)
    (h1 : e1 = rn cD s.data.toList i) (hp : pbP s.data.toList e1 = true) (h2 : e2 = rn cD s.data.toList (e1 + 1)) (h3 : e3 = expP s.data.toList e2) (hlt : e2 < e3) (hci : cI (bt s.data.toList e3) = true) :
    Calls Tryd.prog 30 #[.string s, .int .i64 (i : Int)] w fun e w' => e = .returned (tokV (numP s.data.toList i)) ∧ Below w.heap.size w w' := by
  have hR := Has.new w [.string ⟨#[]⟩, .string ⟨#[]⟩] 30
  have hB : Below w.heap.size w (w.alloc (.cells #[.string ⟨#[]⟩, .string ⟨#[]⟩] 30)) := (Below.refl _ _).alloc (Nat.le_refl _) _
  have hl0 : s.data.toList.length = s.size := by simp
  have hex := num_111 s.data.toList i e1 e2 e3 h1 hp h2 h3 hlt hci
  have hg1 := rn_ge cD s.data.toList i
  have hl1 := rn_le cD s.data.toList i (by omega)
  have Ht := Lib.hid (ht.keep ((Below.refl _ _).alloc (Nat.le_refl _) (.cells #[.string ⟨#[]⟩, .string ⟨#[]⟩] 30)))
  have Hr1 := Lib.hid (runDigit_c s i hi hs (w.alloc (.cells #[.string ⟨#[]⟩, .string ⟨#[]⟩] 30)))
  rw [← h1] at hg1 hl1
  have H1 := Lib.hid h1; have Hp := Lib.hid hp; have Hci := Lib.hid hci
  have hin := pbP_in hp
  have hg2 := rn_ge cD s.data.toList (e1 + 1)
  have hl2 := rn_le cD s.data.toList (e1 + 1) (by omega)
  rw [← h2] at hg2 hl2
  have hg3 := expP_ge s.data.toList e2
  have hl3 := expP_le s.data.toList e2 hl2
  rw [← h3] at hg3 hl3
  rw [hl0] at *
  have H2 := Lib.hid h2; have H3 := Lib.hid h3; have Hx := Lib.hid hex; have Ha := Lib.hid ha
  clear h1 hp h2 h3 hci ht hex ha hl0
  go_enter Tryd.func30, Tryd.ntmps30
  go_wp2_with fail
  refine Hr1.out.mono ?_
  rw [← H1.out]
  rintro e w1 ⟨rfl, rfl⟩
  go_wp2_with fail
  refine (pointBelongs_c s _ (by omega) hs Ha.out _ Ht.out).mono ?_
  rw [Hp.out]
  rintro e w1 ⟨rfl, hb⟩
  have hR := hR.keep hb
  have hB := bt_ hB hb
  clear hb
  go_wp2_with fail
  refine (runDigit_c s (e1 + 1) (by omega) hs _).mono ?_
  rw [← H2.out]
  rintro e w1 ⟨rfl, rfl⟩
  go_wp2_with fail
  refine (exponentEnd_c s _ hs _).mono ?_
  rw [← H3.out]
  rintro e w1 ⟨rfl, rfl⟩
  obtain ⟨hr0, hr1⟩ := hR.c2
  obtain ⟨hq0, hq1⟩ := hR.f2
  go_wp2_with (go_at_call 29; refine (holdName_c s _ _).mono ?_; rw [Hci.out]; rintro e w1 ⟨rfl, rfl⟩)
  all_goals
    rw [Hx.out]
    exact bodyPost_ret (v := tokV none) (res30 _ _ _ _ _ _ _ rfl rfl rfl (hR.set2 _ _)) rfl ⟨rfl, (hB.st (Nat.le_refl _)).st (Nat.le_refl _)⟩

theorem readNumber_c (s : ByteArray) (i : Nat) (hi : i ≤ s.size) (hs : s.size ≤ 1000000) (ha : Asc s) (w : World) (ht : TB w) :
    Calls Tryd.prog 30 #[.string s, .int .i64 (i : Int)] w fun e w' => e = .returned (tokV (numP s.data.toList i)) ∧ Below w.heap.size w w' := by
  rcases hp : pbP s.data.toList (rn cD s.data.toList i) with _ | _
  · by_cases hlt : rn cD s.data.toList i < expP s.data.toList (rn cD s.data.toList i)
    · rcases hci : cI (bt s.data.toList (expP s.data.toList (rn cD s.data.toList i))) with _ | _
      · exact readNumber_010 s i _ _ _ hi hs ha w ht rfl hp rfl rfl hlt hci
      · exact readNumber_011 s i _ _ _ hi hs ha w ht rfl hp rfl rfl hlt hci
    · rcases hci : cI (bt s.data.toList (expP s.data.toList (rn cD s.data.toList i))) with _ | _
      · exact readNumber_000 s i _ _ _ hi hs ha w ht rfl hp rfl rfl hlt hci
      · exact readNumber_001 s i _ _ _ hi hs ha w ht rfl hp rfl rfl hlt hci
  · by_cases hlt : rn cD s.data.toList (rn cD s.data.toList i + 1) < expP s.data.toList (rn cD s.data.toList (rn cD s.data.toList i + 1))
    · rcases hci : cI (bt s.data.toList (expP s.data.toList (rn cD s.data.toList (rn cD s.data.toList i + 1)))) with _ | _
      · exact readNumber_110 s i _ _ _ hi hs ha w ht rfl hp rfl rfl hlt hci
      · exact readNumber_111 s i _ _ _ hi hs ha w ht rfl hp rfl rfl hlt hci
    · rcases hci : cI (bt s.data.toList (expP s.data.toList (rn cD s.data.toList (rn cD s.data.toList i + 1)))) with _ | _
      · exact readNumber_100 s i _ _ _ hi hs ha w ht rfl hp rfl rfl hlt hci
      · exact readNumber_101 s i _ _ _ hi hs ha w ht rfl hp rfl rfl hlt hci
end Go.Proofs.YtcafnpfhjiaolaaDoor
