/- Contract of the document's answer's next, further: texts, words between points, signs. -/
import Derived.Test.YtcafnpfhjiaolaaDoorRefH
namespace Go.Proofs.YtcafnpfhjiaolaaDoor
open Go.RowKit

theorem st_word {L : List UInt8} {i : Nat} {t : Tok} (h : wordP L i = some t) : stP rWords (L.drop i) = t.2 := by
  have h2 : ∀ t ∈ wordsL, t.2 ≠ [] := by decide
  unfold stP rWords
  rw [List.find?_map, find_same (p := (fun t => isW (L.drop i) 0 t) ∘ fun x : Tok => x.2) (q := fun w => isW L i w.2) fun t ht => isW_drop L i t.2 (h2 t ht)]
  unfold wordP at h
  rw [h]; rfl
set_option maxRecDepth 100000 in
set_option maxHeartbeats 2000000 in
theorem next_q39 (s : ByteArray) (i : Nat) (hi : i < s.size) (hs : s.size ≤ 400000) (w : World) (hq : bt s.data.toList i = 39) :
    Calls Tryd.prog 20 #[.string s, .int .i64 (i : Int)] w (NPost s.data.toList i w) := by
  have hl : s.data.toList.length = s.size := by simp
  have hR := Has.new w [.string ⟨#[]⟩, .string ⟨#[]⟩] 30
  have hB : Below w.heap.size w (w.alloc (.cells #[.string ⟨#[]⟩, .string ⟨#[]⟩] 30)) := (Below.refl _ _).alloc (Nat.le_refl _) _
  have hnx : nxtP s.data.toList i = textP s.data.toList i := by unfold nxtP; rw [hq, if_neg (by decide), if_neg (fun h => h.elim (fun h => by cases h) (fun h => absurd h.1 (by decide))), if_pos (by decide)]
  have Hb := Lib.hid (bt_get s i hi).symm
  have Hc := Lib.hid (show cL (bt s.data.toList i) = false by rw [hq]; rfl)
  have Hqc := Lib.hid (quoted_c s i hi hs (by omega) (w.alloc (.cells #[.string ⟨#[]⟩, .string ⟨#[]⟩] 30)))
  have Hq := Lib.hid hq
  rcases hm : quoP s.data.toList (bt s.data.toList i) (i + 1) [] with _ | ⟨l, z⟩
  · have Hx := Lib.hid (show nxtP s.data.toList i = none by rw [hnx]; unfold textP; rw [hm]; rfl)
    have Hm := Lib.hid hm
    clear hq hnx hm hl
    go_enter Tryd.func20, Tryd.ntmps20
    go_wp2_with fail
    refine (rLetter_c _ _).mono ?_
    rw [Hb.out, Hc.out, Hq.out]
    rintro e w1 ⟨rfl, rfl⟩
    go_wp2_with fail
    refine (rDigit_c _ _).mono ?_
    rw [show cD 39 = false from rfl]
    rintro e w1 ⟨rfl, rfl⟩
    go_wp2_with fail
    refine Hqc.out.mono ?_
    rw [Hm.out]
    rintro e w1 ⟨rfl, hb⟩
    simp only [quoV]
    have hR := hR.keep hb
    have hB := bt_ hB hb
    clear hb
    obtain ⟨hr0, hr1⟩ := hR.c2
    obtain ⟨hq0, hq1⟩ := hR.f2
    go_wp2
    exact bodyPost_ret (v := _) (res20 _ _ _ _ _ _ _ rfl rfl rfl (hR.set2 _ _)) rfl (np_none Hx.out ((hB.st (Nat.le_refl _)).st (Nat.le_refl _)))
  · have Hx := Lib.hid (show nxtP s.data.toList i = some ((kText, l), z) by rw [hnx]; unfold textP; rw [hm]; rfl)
    have hz : i + 1 < z := (quoP_gt _ _ _ _ _ hm).1
    have Hm := Lib.hid hm
    clear hq hnx hm hl
    go_enter Tryd.func20, Tryd.ntmps20
    go_wp2_with fail
    refine (rLetter_c _ _).mono ?_
    rw [Hb.out, Hc.out, Hq.out]
    rintro e w1 ⟨rfl, rfl⟩
    go_wp2_with fail
    refine (rDigit_c _ _).mono ?_
    rw [show cD 39 = false from rfl]
    rintro e w1 ⟨rfl, rfl⟩
    go_wp2_with fail
    refine Hqc.out.mono ?_
    rw [Hm.out]
    rintro e w1 ⟨rfl, hb⟩
    simp only [quoV]
    have hR := hR.keep hb
    have hB := bt_ hB hb
    clear hb
    obtain ⟨hr0, hr1⟩ := hR.c2
    obtain ⟨hq0, hq1⟩ := hR.f2
    go_wp2
    exact bodyPost_ret (v := _) (res20 _ _ _ _ _ _ _ rfl rfl rfl (hR.set2 _ _)) rfl (np_some Hx.out (by omega) ((hB.st (Nat.le_refl _)).st (Nat.le_refl _)))

set_option maxRecDepth 100000 in
set_option maxHeartbeats 2000000 in
theorem next_q34 (s : ByteArray) (i : Nat) (hi : i < s.size) (hs : s.size ≤ 400000) (w : World) (hq : bt s.data.toList i = 34) :
    Calls Tryd.prog 20 #[.string s, .int .i64 (i : Int)] w (NPost s.data.toList i w) := by
  have hl : s.data.toList.length = s.size := by simp
  have hR := Has.new w [.string ⟨#[]⟩, .string ⟨#[]⟩] 30
  have hB : Below w.heap.size w (w.alloc (.cells #[.string ⟨#[]⟩, .string ⟨#[]⟩] 30)) := (Below.refl _ _).alloc (Nat.le_refl _) _
  have hnx : nxtP s.data.toList i = textP s.data.toList i := by unfold nxtP; rw [hq, if_neg (by decide), if_neg (fun h => h.elim (fun h => by cases h) (fun h => absurd h.1 (by decide))), if_pos (by decide)]
  have Hb := Lib.hid (bt_get s i hi).symm
  have Hc := Lib.hid (show cL (bt s.data.toList i) = false by rw [hq]; rfl)
  have Hqc := Lib.hid (quoted_c s i hi hs (by omega) (w.alloc (.cells #[.string ⟨#[]⟩, .string ⟨#[]⟩] 30)))
  have Hq := Lib.hid hq
  rcases hm : quoP s.data.toList (bt s.data.toList i) (i + 1) [] with _ | ⟨l, z⟩
  · have Hx := Lib.hid (show nxtP s.data.toList i = none by rw [hnx]; unfold textP; rw [hm]; rfl)
    have Hm := Lib.hid hm
    clear hq hnx hm hl
    go_enter Tryd.func20, Tryd.ntmps20
    go_wp2_with fail
    refine (rLetter_c _ _).mono ?_
    rw [Hb.out, Hc.out, Hq.out]
    rintro e w1 ⟨rfl, rfl⟩
    go_wp2_with fail
    refine (rDigit_c _ _).mono ?_
    rw [show cD 34 = false from rfl]
    rintro e w1 ⟨rfl, rfl⟩
    go_wp2_with fail
    refine Hqc.out.mono ?_
    rw [Hm.out]
    rintro e w1 ⟨rfl, hb⟩
    simp only [quoV]
    have hR := hR.keep hb
    have hB := bt_ hB hb
    clear hb
    obtain ⟨hr0, hr1⟩ := hR.c2
    obtain ⟨hq0, hq1⟩ := hR.f2
    go_wp2
    exact bodyPost_ret (v := _) (res20 _ _ _ _ _ _ _ rfl rfl rfl (hR.set2 _ _)) rfl (np_none Hx.out ((hB.st (Nat.le_refl _)).st (Nat.le_refl _)))
  · have Hx := Lib.hid (show nxtP s.data.toList i = some ((kText, l), z) by rw [hnx]; unfold textP; rw [hm]; rfl)
    have hz : i + 1 < z := (quoP_gt _ _ _ _ _ hm).1
    have Hm := Lib.hid hm
    clear hq hnx hm hl
    go_enter Tryd.func20, Tryd.ntmps20
    go_wp2_with fail
    refine (rLetter_c _ _).mono ?_
    rw [Hb.out, Hc.out, Hq.out]
    rintro e w1 ⟨rfl, rfl⟩
    go_wp2_with fail
    refine (rDigit_c _ _).mono ?_
    rw [show cD 34 = false from rfl]
    rintro e w1 ⟨rfl, rfl⟩
    go_wp2_with fail
    refine Hqc.out.mono ?_
    rw [Hm.out]
    rintro e w1 ⟨rfl, hb⟩
    simp only [quoV]
    have hR := hR.keep hb
    have hB := bt_ hB hb
    clear hb
    obtain ⟨hr0, hr1⟩ := hR.c2
    obtain ⟨hq0, hq1⟩ := hR.f2
    go_wp2
    exact bodyPost_ret (v := _) (res20 _ _ _ _ _ _ _ rfl rfl rfl (hR.set2 _ _)) rfl (np_some Hx.out (by omega) ((hB.st (Nat.le_refl _)).st (Nat.le_refl _)))

set_option maxRecDepth 100000 in
set_option maxHeartbeats 2000000 in
theorem next_wN (s : ByteArray) (i : Nat) (hi : i < s.size) (hs : s.size ≤ 400000) (w : World) (hq : bt s.data.toList i = 46) (hd1 : cD (bt s.data.toList (i + 1)) = false) (hw : wordP s.data.toList i = none) :
    Calls Tryd.prog 20 #[.string s, .int .i64 (i : Int)] w (NPost s.data.toList i w) := by
  have hl : s.data.toList.length = s.size := by simp
  have hR := Has.new w [.string ⟨#[]⟩, .string ⟨#[]⟩] 30
  have hB : Below w.heap.size w (w.alloc (.cells #[.string ⟨#[]⟩, .string ⟨#[]⟩] 30)) := (Below.refl _ _).alloc (Nat.le_refl _) _
  have hnx : nxtP s.data.toList i = opP s.data.toList i := by unfold nxtP; rw [hq, if_neg (by decide), if_neg (by simp [hd1]; decide), if_neg (by decide)]
  rw [op_point hq, hw] at hnx
  have hst : stP rWords (s.data.toList.drop i) = [] := (st_words _ _).2 (by rw [hw]; rfl)
  have Hst := Lib.hid hst
  have Hb := Lib.hid (bt_get s i hi).symm
  have Hc := Lib.hid (show cL (bt s.data.toList i) = false by rw [hq]; rfl)
  have Hq := Lib.hid hq
  have Hd1 := Lib.hid hd1
  have Hx := Lib.hid hnx
  have Hdr := Lib.hid (show (s.extract i s.size).data.toList = s.data.toList.drop i by rw [sub_ext]; unfold sub; rw [List.take_of_length_le (by simp)])
  clear hq hd1 hw hnx hst hl
  have hi2 : (i : Int) ≤ (s.size : Int) := by omega
  go_enter Tryd.func20, Tryd.ntmps20
  go_wp2_with fail
  refine (rLetter_c _ _).mono ?_
  rw [Hb.out, Hc.out, Hq.out]
  rintro e w1 ⟨rfl, rfl⟩
  go_wp2_with fail
  refine (rDigit_c _ _).mono ?_
  rw [show cD 46 = false from rfl]
  rintro e w1 ⟨rfl, rfl⟩
  go_wp2_with fail
  refine (rAt_c s (i + 1) _).mono ?_
  rintro e w1 ⟨rfl, rfl⟩
  go_wp2_with fail
  refine (rDigit_c _ _).mono ?_
  rw [Hd1.out]
  rintro e w1 ⟨rfl, rfl⟩
  go_wp2_with fail
  go_region_held3 (fun w' => Below w.heap.size w w' ∧ Has w' w.heap.size [.string ⟨#[]⟩, .string ⟨#[]⟩]) (first | exact ⟨hB.drew, hR.drew⟩ | assumption | exact skA (by assumption) | exact skH (by assumption) hb') (first | (go_at_call 41; refine (words_c _).mono ?_; rintro e w' ⟨rfl, rfl⟩) | (go_at_call 40; refine (starts6_c _ _ w).mono ?_; rw [Hdr.out]; rw [Hst.out]; rintro e w' ⟨rfl, hb'⟩))
  obtain ⟨hB1, hR1⟩ := ‹_ ∧ _›
  clear hB hR hb'
  have hB := hB1
  have hR := hR1
  clear hB1 hR1
  obtain ⟨hr0, hr1⟩ := hR.c2
  obtain ⟨hq0, hq1⟩ := hR.f2
  go_wp2
  exact bodyPost_ret (v := _) (res20 _ _ _ _ _ _ _ rfl rfl rfl (hR.set2 _ _)) rfl (np_none Hx.out ((hB.st (Nat.le_refl _)).st (Nat.le_refl _)))

set_option maxRecDepth 100000 in
set_option maxHeartbeats 2000000 in
theorem next_w0 (s : ByteArray) (i : Nat) (hi : i < s.size) (hs : s.size ≤ 400000) (w : World) (hq : bt s.data.toList i = 46) (hd1 : cD (bt s.data.toList (i + 1)) = false) (hw : wordP s.data.toList i = some (kOp, [46, 97, 110, 100, 46])) :
    Calls Tryd.prog 20 #[.string s, .int .i64 (i : Int)] w (NPost s.data.toList i w) := by
  have hl : s.data.toList.length = s.size := by simp
  have hR := Has.new w [.string ⟨#[]⟩, .string ⟨#[]⟩] 30
  have hB : Below w.heap.size w (w.alloc (.cells #[.string ⟨#[]⟩, .string ⟨#[]⟩] 30)) := (Below.refl _ _).alloc (Nat.le_refl _) _
  have hnx : nxtP s.data.toList i = opP s.data.toList i := by unfold nxtP; rw [hq, if_neg (by decide), if_neg (by simp [hd1]; decide), if_neg (by decide)]
  rw [op_point hq, hw] at hnx
  have hst : stP rWords (s.data.toList.drop i) = [46, 97, 110, 100, 46] := st_word hw
  have Hst := Lib.hid hst
  have Hb := Lib.hid (bt_get s i hi).symm
  have Hc := Lib.hid (show cL (bt s.data.toList i) = false by rw [hq]; rfl)
  have Hq := Lib.hid hq
  have Hd1 := Lib.hid hd1
  have Hx := Lib.hid hnx
  have Hdr := Lib.hid (show (s.extract i s.size).data.toList = s.data.toList.drop i by rw [sub_ext]; unfold sub; rw [List.take_of_length_le (by simp)])
  clear hq hd1 hw hnx hst hl
  have hi2 : (i : Int) ≤ (s.size : Int) := by omega
  go_enter Tryd.func20, Tryd.ntmps20
  go_wp2_with fail
  refine (rLetter_c _ _).mono ?_
  rw [Hb.out, Hc.out, Hq.out]
  rintro e w1 ⟨rfl, rfl⟩
  go_wp2_with fail
  refine (rDigit_c _ _).mono ?_
  rw [show cD 46 = false from rfl]
  rintro e w1 ⟨rfl, rfl⟩
  go_wp2_with fail
  refine (rAt_c s (i + 1) _).mono ?_
  rintro e w1 ⟨rfl, rfl⟩
  go_wp2_with fail
  refine (rDigit_c _ _).mono ?_
  rw [Hd1.out]
  rintro e w1 ⟨rfl, rfl⟩
  go_wp2_with fail
  go_region_held3 (fun w' => Below w.heap.size w w' ∧ Has w' w.heap.size [.string ⟨#[]⟩, .string ⟨#[]⟩]) (first | exact ⟨hB.drew, hR.drew⟩ | assumption | exact skA (by assumption) | exact skH (by assumption) hb') (first | (go_at_call 41; refine (words_c _).mono ?_; rintro e w' ⟨rfl, rfl⟩) | (go_at_call 40; refine (starts6_c _ _ w).mono ?_; rw [Hdr.out]; rw [Hst.out]; rintro e w' ⟨rfl, hb'⟩))
  obtain ⟨hB1, hR1⟩ := ‹_ ∧ _›
  clear hB hR hb'
  have hB := hB1
  have hR := hR1
  clear hB1 hR1
  obtain ⟨hr0, hr1⟩ := hR.c2
  obtain ⟨hq0, hq1⟩ := hR.f2
  go_wp2
  exact bodyPost_ret (v := _) (res20 _ _ _ _ _ _ _ rfl rfl rfl (hR.set2 _ _)) rfl (np_some Hx.out (by simp; omega) ((hB.st (Nat.le_refl _)).st (Nat.le_refl _)))

set_option maxRecDepth 100000 in
set_option maxHeartbeats 2000000 in
theorem next_w1 (s : ByteArray) (i : Nat) (hi : i < s.size) (hs : s.size ≤ 400000) (w : World) (hq : bt s.data.toList i = 46) (hd1 : cD (bt s.data.toList (i + 1)) = false) (hw : wordP s.data.toList i = some (kOp, [46, 111, 114, 46])) :
    Calls Tryd.prog 20 #[.string s, .int .i64 (i : Int)] w (NPost s.data.toList i w) := by
  have hl : s.data.toList.length = s.size := by simp
  have hR := Has.new w [.string ⟨#[]⟩, .string ⟨#[]⟩] 30
  have hB : Below w.heap.size w (w.alloc (.cells #[.string ⟨#[]⟩, .string ⟨#[]⟩] 30)) := (Below.refl _ _).alloc (Nat.le_refl _) _
  have hnx : nxtP s.data.toList i = opP s.data.toList i := by unfold nxtP; rw [hq, if_neg (by decide), if_neg (by simp [hd1]; decide), if_neg (by decide)]
  rw [op_point hq, hw] at hnx
  have hst : stP rWords (s.data.toList.drop i) = [46, 111, 114, 46] := st_word hw
  have Hst := Lib.hid hst
  have Hb := Lib.hid (bt_get s i hi).symm
  have Hc := Lib.hid (show cL (bt s.data.toList i) = false by rw [hq]; rfl)
  have Hq := Lib.hid hq
  have Hd1 := Lib.hid hd1
  have Hx := Lib.hid hnx
  have Hdr := Lib.hid (show (s.extract i s.size).data.toList = s.data.toList.drop i by rw [sub_ext]; unfold sub; rw [List.take_of_length_le (by simp)])
  clear hq hd1 hw hnx hst hl
  have hi2 : (i : Int) ≤ (s.size : Int) := by omega
  go_enter Tryd.func20, Tryd.ntmps20
  go_wp2_with fail
  refine (rLetter_c _ _).mono ?_
  rw [Hb.out, Hc.out, Hq.out]
  rintro e w1 ⟨rfl, rfl⟩
  go_wp2_with fail
  refine (rDigit_c _ _).mono ?_
  rw [show cD 46 = false from rfl]
  rintro e w1 ⟨rfl, rfl⟩
  go_wp2_with fail
  refine (rAt_c s (i + 1) _).mono ?_
  rintro e w1 ⟨rfl, rfl⟩
  go_wp2_with fail
  refine (rDigit_c _ _).mono ?_
  rw [Hd1.out]
  rintro e w1 ⟨rfl, rfl⟩
  go_wp2_with fail
  go_region_held3 (fun w' => Below w.heap.size w w' ∧ Has w' w.heap.size [.string ⟨#[]⟩, .string ⟨#[]⟩]) (first | exact ⟨hB.drew, hR.drew⟩ | assumption | exact skA (by assumption) | exact skH (by assumption) hb') (first | (go_at_call 41; refine (words_c _).mono ?_; rintro e w' ⟨rfl, rfl⟩) | (go_at_call 40; refine (starts6_c _ _ w).mono ?_; rw [Hdr.out]; rw [Hst.out]; rintro e w' ⟨rfl, hb'⟩))
  obtain ⟨hB1, hR1⟩ := ‹_ ∧ _›
  clear hB hR hb'
  have hB := hB1
  have hR := hR1
  clear hB1 hR1
  obtain ⟨hr0, hr1⟩ := hR.c2
  obtain ⟨hq0, hq1⟩ := hR.f2
  go_wp2
  exact bodyPost_ret (v := _) (res20 _ _ _ _ _ _ _ rfl rfl rfl (hR.set2 _ _)) rfl (np_some Hx.out (by simp; omega) ((hB.st (Nat.le_refl _)).st (Nat.le_refl _)))

set_option maxRecDepth 100000 in
set_option maxHeartbeats 2000000 in
theorem next_w2 (s : ByteArray) (i : Nat) (hi : i < s.size) (hs : s.size ≤ 400000) (w : World) (hq : bt s.data.toList i = 46) (hd1 : cD (bt s.data.toList (i + 1)) = false) (hw : wordP s.data.toList i = some (kOp, [46, 110, 111, 116, 46])) :
    Calls Tryd.prog 20 #[.string s, .int .i64 (i : Int)] w (NPost s.data.toList i w) := by
  have hl : s.data.toList.length = s.size := by simp
  have hR := Has.new w [.string ⟨#[]⟩, .string ⟨#[]⟩] 30
  have hB : Below w.heap.size w (w.alloc (.cells #[.string ⟨#[]⟩, .string ⟨#[]⟩] 30)) := (Below.refl _ _).alloc (Nat.le_refl _) _
  have hnx : nxtP s.data.toList i = opP s.data.toList i := by unfold nxtP; rw [hq, if_neg (by decide), if_neg (by simp [hd1]; decide), if_neg (by decide)]
  rw [op_point hq, hw] at hnx
  have hst : stP rWords (s.data.toList.drop i) = [46, 110, 111, 116, 46] := st_word hw
  have Hst := Lib.hid hst
  have Hb := Lib.hid (bt_get s i hi).symm
  have Hc := Lib.hid (show cL (bt s.data.toList i) = false by rw [hq]; rfl)
  have Hq := Lib.hid hq
  have Hd1 := Lib.hid hd1
  have Hx := Lib.hid hnx
  have Hdr := Lib.hid (show (s.extract i s.size).data.toList = s.data.toList.drop i by rw [sub_ext]; unfold sub; rw [List.take_of_length_le (by simp)])
  clear hq hd1 hw hnx hst hl
  have hi2 : (i : Int) ≤ (s.size : Int) := by omega
  go_enter Tryd.func20, Tryd.ntmps20
  go_wp2_with fail
  refine (rLetter_c _ _).mono ?_
  rw [Hb.out, Hc.out, Hq.out]
  rintro e w1 ⟨rfl, rfl⟩
  go_wp2_with fail
  refine (rDigit_c _ _).mono ?_
  rw [show cD 46 = false from rfl]
  rintro e w1 ⟨rfl, rfl⟩
  go_wp2_with fail
  refine (rAt_c s (i + 1) _).mono ?_
  rintro e w1 ⟨rfl, rfl⟩
  go_wp2_with fail
  refine (rDigit_c _ _).mono ?_
  rw [Hd1.out]
  rintro e w1 ⟨rfl, rfl⟩
  go_wp2_with fail
  go_region_held3 (fun w' => Below w.heap.size w w' ∧ Has w' w.heap.size [.string ⟨#[]⟩, .string ⟨#[]⟩]) (first | exact ⟨hB.drew, hR.drew⟩ | assumption | exact skA (by assumption) | exact skH (by assumption) hb') (first | (go_at_call 41; refine (words_c _).mono ?_; rintro e w' ⟨rfl, rfl⟩) | (go_at_call 40; refine (starts6_c _ _ w).mono ?_; rw [Hdr.out]; rw [Hst.out]; rintro e w' ⟨rfl, hb'⟩))
  obtain ⟨hB1, hR1⟩ := ‹_ ∧ _›
  clear hB hR hb'
  have hB := hB1
  have hR := hR1
  clear hB1 hR1
  obtain ⟨hr0, hr1⟩ := hR.c2
  obtain ⟨hq0, hq1⟩ := hR.f2
  go_wp2
  exact bodyPost_ret (v := _) (res20 _ _ _ _ _ _ _ rfl rfl rfl (hR.set2 _ _)) rfl (np_some Hx.out (by simp; omega) ((hB.st (Nat.le_refl _)).st (Nat.le_refl _)))

set_option maxRecDepth 100000 in
set_option maxHeartbeats 2000000 in
theorem next_w3 (s : ByteArray) (i : Nat) (hi : i < s.size) (hs : s.size ≤ 400000) (w : World) (hq : bt s.data.toList i = 46) (hd1 : cD (bt s.data.toList (i + 1)) = false) (hw : wordP s.data.toList i = some (kOp, [46, 101, 113, 118, 46])) :
    Calls Tryd.prog 20 #[.string s, .int .i64 (i : Int)] w (NPost s.data.toList i w) := by
  have hl : s.data.toList.length = s.size := by simp
  have hR := Has.new w [.string ⟨#[]⟩, .string ⟨#[]⟩] 30
  have hB : Below w.heap.size w (w.alloc (.cells #[.string ⟨#[]⟩, .string ⟨#[]⟩] 30)) := (Below.refl _ _).alloc (Nat.le_refl _) _
  have hnx : nxtP s.data.toList i = opP s.data.toList i := by unfold nxtP; rw [hq, if_neg (by decide), if_neg (by simp [hd1]; decide), if_neg (by decide)]
  rw [op_point hq, hw] at hnx
  have hst : stP rWords (s.data.toList.drop i) = [46, 101, 113, 118, 46] := st_word hw
  have Hst := Lib.hid hst
  have Hb := Lib.hid (bt_get s i hi).symm
  have Hc := Lib.hid (show cL (bt s.data.toList i) = false by rw [hq]; rfl)
  have Hq := Lib.hid hq
  have Hd1 := Lib.hid hd1
  have Hx := Lib.hid hnx
  have Hdr := Lib.hid (show (s.extract i s.size).data.toList = s.data.toList.drop i by rw [sub_ext]; unfold sub; rw [List.take_of_length_le (by simp)])
  clear hq hd1 hw hnx hst hl
  have hi2 : (i : Int) ≤ (s.size : Int) := by omega
  go_enter Tryd.func20, Tryd.ntmps20
  go_wp2_with fail
  refine (rLetter_c _ _).mono ?_
  rw [Hb.out, Hc.out, Hq.out]
  rintro e w1 ⟨rfl, rfl⟩
  go_wp2_with fail
  refine (rDigit_c _ _).mono ?_
  rw [show cD 46 = false from rfl]
  rintro e w1 ⟨rfl, rfl⟩
  go_wp2_with fail
  refine (rAt_c s (i + 1) _).mono ?_
  rintro e w1 ⟨rfl, rfl⟩
  go_wp2_with fail
  refine (rDigit_c _ _).mono ?_
  rw [Hd1.out]
  rintro e w1 ⟨rfl, rfl⟩
  go_wp2_with fail
  go_region_held3 (fun w' => Below w.heap.size w w' ∧ Has w' w.heap.size [.string ⟨#[]⟩, .string ⟨#[]⟩]) (first | exact ⟨hB.drew, hR.drew⟩ | assumption | exact skA (by assumption) | exact skH (by assumption) hb') (first | (go_at_call 41; refine (words_c _).mono ?_; rintro e w' ⟨rfl, rfl⟩) | (go_at_call 40; refine (starts6_c _ _ w).mono ?_; rw [Hdr.out]; rw [Hst.out]; rintro e w' ⟨rfl, hb'⟩))
  obtain ⟨hB1, hR1⟩ := ‹_ ∧ _›
  clear hB hR hb'
  have hB := hB1
  have hR := hR1
  clear hB1 hR1
  obtain ⟨hr0, hr1⟩ := hR.c2
  obtain ⟨hq0, hq1⟩ := hR.f2
  go_wp2
  exact bodyPost_ret (v := _) (res20 _ _ _ _ _ _ _ rfl rfl rfl (hR.set2 _ _)) rfl (np_some Hx.out (by simp; omega) ((hB.st (Nat.le_refl _)).st (Nat.le_refl _)))

set_option maxRecDepth 100000 in
set_option maxHeartbeats 2000000 in
theorem next_w4 (s : ByteArray) (i : Nat) (hi : i < s.size) (hs : s.size ≤ 400000) (w : World) (hq : bt s.data.toList i = 46) (hd1 : cD (bt s.data.toList (i + 1)) = false) (hw : wordP s.data.toList i = some (kLog, [46, 116, 114, 117, 101, 46])) :
    Calls Tryd.prog 20 #[.string s, .int .i64 (i : Int)] w (NPost s.data.toList i w) := by
  have hl : s.data.toList.length = s.size := by simp
  have hR := Has.new w [.string ⟨#[]⟩, .string ⟨#[]⟩] 30
  have hB : Below w.heap.size w (w.alloc (.cells #[.string ⟨#[]⟩, .string ⟨#[]⟩] 30)) := (Below.refl _ _).alloc (Nat.le_refl _) _
  have hnx : nxtP s.data.toList i = opP s.data.toList i := by unfold nxtP; rw [hq, if_neg (by decide), if_neg (by simp [hd1]; decide), if_neg (by decide)]
  rw [op_point hq, hw] at hnx
  have hst : stP rWords (s.data.toList.drop i) = [46, 116, 114, 117, 101, 46] := st_word hw
  have Hst := Lib.hid hst
  have Hb := Lib.hid (bt_get s i hi).symm
  have Hc := Lib.hid (show cL (bt s.data.toList i) = false by rw [hq]; rfl)
  have Hq := Lib.hid hq
  have Hd1 := Lib.hid hd1
  have Hx := Lib.hid hnx
  have Hdr := Lib.hid (show (s.extract i s.size).data.toList = s.data.toList.drop i by rw [sub_ext]; unfold sub; rw [List.take_of_length_le (by simp)])
  clear hq hd1 hw hnx hst hl
  have hi2 : (i : Int) ≤ (s.size : Int) := by omega
  go_enter Tryd.func20, Tryd.ntmps20
  go_wp2_with fail
  refine (rLetter_c _ _).mono ?_
  rw [Hb.out, Hc.out, Hq.out]
  rintro e w1 ⟨rfl, rfl⟩
  go_wp2_with fail
  refine (rDigit_c _ _).mono ?_
  rw [show cD 46 = false from rfl]
  rintro e w1 ⟨rfl, rfl⟩
  go_wp2_with fail
  refine (rAt_c s (i + 1) _).mono ?_
  rintro e w1 ⟨rfl, rfl⟩
  go_wp2_with fail
  refine (rDigit_c _ _).mono ?_
  rw [Hd1.out]
  rintro e w1 ⟨rfl, rfl⟩
  go_wp2_with fail
  go_region_held3 (fun w' => Below w.heap.size w w' ∧ Has w' w.heap.size [.string ⟨#[]⟩, .string ⟨#[]⟩]) (first | exact ⟨hB.drew, hR.drew⟩ | assumption | exact skA (by assumption) | exact skH (by assumption) hb') (first | (go_at_call 41; refine (words_c _).mono ?_; rintro e w' ⟨rfl, rfl⟩) | (go_at_call 40; refine (starts6_c _ _ w).mono ?_; rw [Hdr.out]; rw [Hst.out]; rintro e w' ⟨rfl, hb'⟩))
  obtain ⟨hB1, hR1⟩ := ‹_ ∧ _›
  clear hB hR hb'
  have hB := hB1
  have hR := hR1
  clear hB1 hR1
  obtain ⟨hr0, hr1⟩ := hR.c2
  obtain ⟨hq0, hq1⟩ := hR.f2
  go_wp2
  exact bodyPost_ret (v := _) (res20 _ _ _ _ _ _ _ rfl rfl rfl (hR.set2 _ _)) rfl (np_some Hx.out (by simp; omega) ((hB.st (Nat.le_refl _)).st (Nat.le_refl _)))

set_option maxRecDepth 100000 in
set_option maxHeartbeats 2000000 in
theorem next_w5 (s : ByteArray) (i : Nat) (hi : i < s.size) (hs : s.size ≤ 400000) (w : World) (hq : bt s.data.toList i = 46) (hd1 : cD (bt s.data.toList (i + 1)) = false) (hw : wordP s.data.toList i = some (kLog, [46, 102, 97, 108, 115, 101, 46])) :
    Calls Tryd.prog 20 #[.string s, .int .i64 (i : Int)] w (NPost s.data.toList i w) := by
  have hl : s.data.toList.length = s.size := by simp
  have hR := Has.new w [.string ⟨#[]⟩, .string ⟨#[]⟩] 30
  have hB : Below w.heap.size w (w.alloc (.cells #[.string ⟨#[]⟩, .string ⟨#[]⟩] 30)) := (Below.refl _ _).alloc (Nat.le_refl _) _
  have hnx : nxtP s.data.toList i = opP s.data.toList i := by unfold nxtP; rw [hq, if_neg (by decide), if_neg (by simp [hd1]; decide), if_neg (by decide)]
  rw [op_point hq, hw] at hnx
  have hst : stP rWords (s.data.toList.drop i) = [46, 102, 97, 108, 115, 101, 46] := st_word hw
  have Hst := Lib.hid hst
  have Hb := Lib.hid (bt_get s i hi).symm
  have Hc := Lib.hid (show cL (bt s.data.toList i) = false by rw [hq]; rfl)
  have Hq := Lib.hid hq
  have Hd1 := Lib.hid hd1
  have Hx := Lib.hid hnx
  have Hdr := Lib.hid (show (s.extract i s.size).data.toList = s.data.toList.drop i by rw [sub_ext]; unfold sub; rw [List.take_of_length_le (by simp)])
  clear hq hd1 hw hnx hst hl
  have hi2 : (i : Int) ≤ (s.size : Int) := by omega
  go_enter Tryd.func20, Tryd.ntmps20
  go_wp2_with fail
  refine (rLetter_c _ _).mono ?_
  rw [Hb.out, Hc.out, Hq.out]
  rintro e w1 ⟨rfl, rfl⟩
  go_wp2_with fail
  refine (rDigit_c _ _).mono ?_
  rw [show cD 46 = false from rfl]
  rintro e w1 ⟨rfl, rfl⟩
  go_wp2_with fail
  refine (rAt_c s (i + 1) _).mono ?_
  rintro e w1 ⟨rfl, rfl⟩
  go_wp2_with fail
  refine (rDigit_c _ _).mono ?_
  rw [Hd1.out]
  rintro e w1 ⟨rfl, rfl⟩
  go_wp2_with fail
  go_region_held3 (fun w' => Below w.heap.size w w' ∧ Has w' w.heap.size [.string ⟨#[]⟩, .string ⟨#[]⟩]) (first | exact ⟨hB.drew, hR.drew⟩ | assumption | exact skA (by assumption) | exact skH (by assumption) hb') (first | (go_at_call 41; refine (words_c _).mono ?_; rintro e w' ⟨rfl, rfl⟩) | (go_at_call 40; refine (starts6_c _ _ w).mono ?_; rw [Hdr.out]; rw [Hst.out]; rintro e w' ⟨rfl, hb'⟩))
  obtain ⟨hB1, hR1⟩ := ‹_ ∧ _›
  clear hB hR hb'
  have hB := hB1
  have hR := hR1
  clear hB1 hR1
  obtain ⟨hr0, hr1⟩ := hR.c2
  obtain ⟨hq0, hq1⟩ := hR.f2
  go_wp2
  exact bodyPost_ret (v := _) (res20 _ _ _ _ _ _ _ rfl rfl rfl (hR.set2 _ _)) rfl (np_some Hx.out (by simp; omega) ((hB.st (Nat.le_refl _)).st (Nat.le_refl _)))

set_option maxRecDepth 100000 in
set_option maxHeartbeats 2000000 in
theorem next_o0 (s : ByteArray) (i : Nat) (hi : i < s.size) (_ : s.size ≤ 400000) (w : World) (hc : cL (bt s.data.toList i) = false) (hd : cD (bt s.data.toList i) = false) (h46 : bt s.data.toList i ≠ 46) (h39 : bt s.data.toList i ≠ 39) (h34 : bt s.data.toList i ≠ 34) (hst : stP rOps (s.data.toList.drop i) = []) :
    Calls Tryd.prog 20 #[.string s, .int .i64 (i : Int)] w (NPost s.data.toList i w) := by
  have hl : s.data.toList.length = s.size := by simp
  have hR := Has.new w [.string ⟨#[]⟩, .string ⟨#[]⟩] 30
  have hB : Below w.heap.size w (w.alloc (.cells #[.string ⟨#[]⟩, .string ⟨#[]⟩] 30)) := (Below.refl _ _).alloc (Nat.le_refl _) _
  have hnx : nxtP s.data.toList i = opP s.data.toList i := by unfold nxtP; rw [if_neg (by simp [hc]), if_neg (by simp [hd, h46]), if_neg (by omega)]
  rw [op_other (by omega) h46, hst] at hnx
  have Hst := Lib.hid hst
  have Hb := Lib.hid (bt_get s i hi).symm
  have Hc := Lib.hid hc
  have Hd := Lib.hid hd
  have Hx := Lib.hid (show nxtP s.data.toList i = none by rw [hnx, if_pos rfl])
  have Hdr := Lib.hid (show (s.extract i s.size).data.toList = s.data.toList.drop i by rw [sub_ext]; unfold sub; rw [List.take_of_length_le (by simp)])
  have hb1 : ((bt s.data.toList i : Int) == 46) = false := by simp; omega
  have hb2 : ((bt s.data.toList i : Int) == 39) = false := by simp; omega
  have hb3 : ((bt s.data.toList i : Int) == 34) = false := by simp; omega
  clear hc hd h46 h39 h34 hst hnx hl
  have hi2 : (i : Int) ≤ (s.size : Int) := by omega
  go_enter Tryd.func20, Tryd.ntmps20
  go_wp2_with fail
  refine (rLetter_c _ _).mono ?_
  rw [Hb.out, Hc.out]
  rintro e w1 ⟨rfl, rfl⟩
  go_wp2_with fail
  refine (rDigit_c _ _).mono ?_
  rw [Hd.out]
  rintro e w1 ⟨rfl, rfl⟩
  go_wp2_with fail
  go_region_held3 (fun w' => Below w.heap.size w w' ∧ Has w' w.heap.size [.string ⟨#[]⟩, .string ⟨#[]⟩]) (first | exact ⟨hB.drew, hR.drew⟩ | assumption | exact skA (by assumption) | exact skH (by assumption) hb') (first | (go_at_call 42; refine (ops_c _).mono ?_; rintro e w' ⟨rfl, rfl⟩) | (go_at_call 40; refine (starts21_c _ _ w).mono ?_; rw [Hdr.out]; rw [Hst.out]; rintro e w' ⟨rfl, hb'⟩))
  obtain ⟨hB1, hR1⟩ := ‹_ ∧ _›
  clear hB hR hb'
  have hB := hB1
  have hR := hR1
  clear hB1 hR1
  obtain ⟨hr0, hr1⟩ := hR.c2
  obtain ⟨hq0, hq1⟩ := hR.f2
  go_wp2
  exact bodyPost_ret (v := _) (res20 _ _ _ _ _ _ _ rfl rfl rfl (hR.set2 _ _)) rfl (np_none Hx.out ((hB.st (Nat.le_refl _)).st (Nat.le_refl _)))

set_option maxRecDepth 100000 in
set_option maxHeartbeats 2000000 in
theorem next_o1 (s : ByteArray) (i : Nat) (hi : i < s.size) (_ : s.size ≤ 400000) (w : World) (hc : cL (bt s.data.toList i) = false) (hd : cD (bt s.data.toList i) = false) (h46 : bt s.data.toList i ≠ 46) (h39 : bt s.data.toList i ≠ 39) (h34 : bt s.data.toList i ≠ 34) (y : UInt8) (ys : List UInt8) (hst : stP rOps (s.data.toList.drop i) = y :: ys) :
    Calls Tryd.prog 20 #[.string s, .int .i64 (i : Int)] w (NPost s.data.toList i w) := by
  have hl : s.data.toList.length = s.size := by simp
  have hR := Has.new w [.string ⟨#[]⟩, .string ⟨#[]⟩] 30
  have hB : Below w.heap.size w (w.alloc (.cells #[.string ⟨#[]⟩, .string ⟨#[]⟩] 30)) := (Below.refl _ _).alloc (Nat.le_refl _) _
  have hnx : nxtP s.data.toList i = opP s.data.toList i := by unfold nxtP; rw [if_neg (by simp [hc]), if_neg (by simp [hd, h46]), if_neg (by omega)]
  rw [op_other (by omega) h46, hst] at hnx
  have Hst := Lib.hid hst
  have Hb := Lib.hid (bt_get s i hi).symm
  have Hc := Lib.hid hc
  have Hd := Lib.hid hd
  have Hx := Lib.hid (show nxtP s.data.toList i = some ((kOp, y :: ys), i + (y :: ys).length) by rw [hnx, if_neg (by simp)])
  have hne : ((⟨(y :: ys).toArray⟩ : ByteArray) != ⟨#[]⟩) = true := by rfl
  have Hdr := Lib.hid (show (s.extract i s.size).data.toList = s.data.toList.drop i by rw [sub_ext]; unfold sub; rw [List.take_of_length_le (by simp)])
  have hb1 : ((bt s.data.toList i : Int) == 46) = false := by simp; omega
  have hb2 : ((bt s.data.toList i : Int) == 39) = false := by simp; omega
  have hb3 : ((bt s.data.toList i : Int) == 34) = false := by simp; omega
  clear hc hd h46 h39 h34 hst hnx hl
  have hi2 : (i : Int) ≤ (s.size : Int) := by omega
  go_enter Tryd.func20, Tryd.ntmps20
  go_wp2_with fail
  refine (rLetter_c _ _).mono ?_
  rw [Hb.out, Hc.out]
  rintro e w1 ⟨rfl, rfl⟩
  go_wp2_with fail
  refine (rDigit_c _ _).mono ?_
  rw [Hd.out]
  rintro e w1 ⟨rfl, rfl⟩
  go_wp2_with fail
  go_region_held3 (fun w' => Below w.heap.size w w' ∧ Has w' w.heap.size [.string ⟨#[]⟩, .string ⟨#[]⟩]) (first | exact ⟨hB.drew, hR.drew⟩ | assumption | exact skA (by assumption) | exact skH (by assumption) hb') (first | (go_at_call 42; refine (ops_c _).mono ?_; rintro e w' ⟨rfl, rfl⟩) | (go_at_call 40; refine (starts21_c _ _ w).mono ?_; rw [Hdr.out]; rw [Hst.out]; rintro e w' ⟨rfl, hb'⟩))
  obtain ⟨hB1, hR1⟩ := ‹_ ∧ _›
  clear hB hR hb'
  have hB := hB1
  have hR := hR1
  clear hB1 hR1
  obtain ⟨hr0, hr1⟩ := hR.c2
  obtain ⟨hq0, hq1⟩ := hR.f2
  go_wp2
  exact bodyPost_ret (v := _) (res20 _ _ _ _ _ _ _ rfl rfl rfl (hR.set2 _ _)) rfl (np_some Hx.out (by simp; omega) ((hB.st (Nat.le_refl _)).st (Nat.le_refl _)))

theorem next_c (s : ByteArray) (i : Nat) (hi : i < s.size) (hs : s.size ≤ 400000) (w : World) : Calls Tryd.prog 20 #[.string s, .int .i64 (i : Int)] w (NPost s.data.toList i w) := by
  rcases hc : cL (bt s.data.toList i) with _ | _
  · rcases hd : cD (bt s.data.toList i) with _ | _
    · by_cases h46 : bt s.data.toList i = 46
      · rcases hd1 : cD (bt s.data.toList (i + 1)) with _ | _
        · rcases hw : wordP s.data.toList i with _ | t
          · exact next_wN s i hi hs w h46 hd1 hw
          · have hm := List.mem_of_find?_eq_some hw
            unfold wordsL at hm
            simp only [List.mem_cons, List.not_mem_nil, or_false] at hm
            rcases hm with rfl | rfl | rfl | rfl | rfl | rfl
            · exact next_w0 s i hi hs w h46 hd1 hw
            · exact next_w1 s i hi hs w h46 hd1 hw
            · exact next_w2 s i hi hs w h46 hd1 hw
            · exact next_w3 s i hi hs w h46 hd1 hw
            · exact next_w4 s i hi hs w h46 hd1 hw
            · exact next_w5 s i hi hs w h46 hd1 hw
        · exact next_pnt s i hi hs w hc h46 hd1
      · by_cases h39 : bt s.data.toList i = 39
        · exact next_q39 s i hi hs w h39
        · by_cases h34 : bt s.data.toList i = 34
          · exact next_q34 s i hi hs w h34
          · rcases hst : stP rOps (s.data.toList.drop i) with _ | ⟨y, ys⟩
            · exact next_o0 s i hi hs w hc hd h46 h39 h34 hst
            · exact next_o1 s i hi hs w hc hd h46 h39 h34 y ys hst
    · exact next_dig s i hi hs w hc hd
  · exact next_name s i hi hs w hc
end Go.Proofs.YtcafnpfhjiaolaaDoor
