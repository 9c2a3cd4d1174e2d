/- Contract of the document's answer's number, one of its ways: the number at a place. -/
import Derived.Test.YtcafnpfhjiaolaaDoorRefE
namespace Go.Proofs.YtcafnpfhjiaolaaDoor
open Go.RowKit

theorem np_any {Q : Exit → Act → World → Prop} {c : _} {a a' : Act} {w : World} (h : NoPanic Q (.panic c) a w) : NoPanic Q (.panic c) a' w := (show False from h).elim
set_option maxRecDepth 100000 in
set_option maxHeartbeats 4000000 in
theorem number_B (s : ByteArray) (i t : Nat) (hs : s.size ≤ 400000) (w : World) (hr : bt s.data.toList (i + t) = 46) (y : UInt8) (ys : List UInt8) (hst : stP rWords (s.data.toList.drop (i + t)) = y :: ys)
    (ht : rn cD s.data.toList i = i + t) (hp : pbP s.data.toList (i + t) = false) (hm : i + (t + powN s.data.toList (i + (t))) ≤ s.size) :
    Calls Tryd.prog 38 #[.string s, .int .i64 (i : Int)] w fun e w' => e = .returned (tokV ((numP s.data.toList i).map fun r => (r.1, r.2 - i))) ∧ Below w.heap.size w w' := by
  have hR := Has.new w [.string ⟨#[]⟩, .string ⟨#[]⟩] 30
  have hB : Below w.heap.size w (w.alloc (.cells #[.string ⟨#[]⟩, .string ⟨#[]⟩] 30)) := (Below.refl _ _).alloc (Nat.le_refl _) _
  have Hd := Lib.hid (digits_c s i (by omega) (by omega) (w.alloc (.cells #[.string ⟨#[]⟩, .string ⟨#[]⟩] 30)))
  have Ht := Lib.hid (show rn cD s.data.toList i - i = t by omega)
  have Ht0 := Lib.hid ht; have Hp0 := Lib.hid hp
  have Hdr := Lib.hid (show (s.extract ((i : Int) + (t : Int)).toNat s.size).data.toList = s.data.toList.drop (i + t) by rw [sub_ext]; unfold sub; rw [List.take_of_length_le (by simp)]; rfl)
  have Hst := Lib.hid hst
  have Hr := Lib.hid hr
  clear ht hp hst 
  clear hr
  have hne : ((⟨(y :: ys).toArray⟩ : ByteArray) == ⟨#[]⟩) = false := by rfl
  have hw1 : IntKind.i64.wrap ((i : Int) + (t : Int)) = i + t := IntWalk.i64_in _ (by omega)
  have hw2 : (0 : Int) ≤ (i : Int) + (t : Int) := by omega
  have hw3 : (i : Int) + (t : Int) ≤ (s.size : Int) := by omega
  obtain ⟨x, hx⟩ : ∃ x, powN s.data.toList (i + (t)) = x := ⟨_, rfl⟩
  rw [hx] at hm
  have Hpw := Lib.hid hx
  clear hx
  go_enter Tryd.func38, Tryd.ntmps38
  go_wp2_with fail
  refine Hd.out.mono ?_
  rw [Ht.out]
  rintro e w1 ⟨rfl, rfl⟩
  go_wp2_with fail
  refine wp_region_noPanic ?_
  refine wp_region_held_drew (S := fun w' => Below w.heap.size w w' ∧ Has w' w.heap.size [.string ⟨#[]⟩, .string ⟨#[]⟩]) (by kernel_rfl) ⟨hB.drew, hR.drew⟩ (fun hHeld => ?_)
  refine wpAnyH_take (i := 0) (v := ?_) rfl (by kernel_rfl) (by kernel_rfl) (by kernel_rfl) (fun _ _ _ h => np_any h) (Or.inl ⟨by rfl, ?_⟩) (by assumption) ?_
  rotate_left
  · intro w hSw
    go_simp
    try with_reducible rfl
  try simp only [Act.put, List.setIfInBounds_toArray]
  refine wpAnyH_take (i := 1) (v := ?_) rfl (by kernel_rfl) (by kernel_rfl) (by kernel_rfl) (fun _ _ _ h => np_any h) (Or.inl ⟨by rfl, ?_⟩) (by assumption) ?_
  rotate_left
  · intro w hSw
    go_simp
    try with_reducible rfl
  try simp only [Act.put]
  refine wpAnyH_take (i := 2) (v := ?_) rfl (by kernel_rfl) (by kernel_rfl) (by kernel_rfl) (fun _ _ _ h => np_any h) (Or.inl ⟨by rfl, ?_⟩) (by assumption) ?_
  rotate_left
  · intro w hSw
    go_simp
    try with_reducible rfl
  try simp only [Act.put]
  refine wpAnyH_take (i := 3) (v := ?_) rfl (by kernel_rfl) (by kernel_rfl) (by kernel_rfl) (fun _ _ _ h => np_any h) (Or.inl ⟨by rfl, ?_⟩) (by assumption) ?_
  rotate_left
  · intro w hSw
    go_simp
    try with_reducible rfl
  try simp only [Act.put]
  refine wpAnyH_ready (rs := [4]) (by kernel_rfl) (by simp) ?_
  refine AllReadyH.cons rfl (fun K hK => ?_) AllReadyH.nil
  go_simp
  (refine (rAt_c s (i + t) _).mono ?_; rw [Hr.out]; rintro e w' ⟨rfl, rfl⟩)
  refine hK.out _ _ ?_ (fun hHeld => ?_)
  · first | assumption | exact skA (by assumption) | exact skH (by assumption) hb'
  clear hK K
  try simp only [Act.put, List.setIfInBounds_toArray, List.set_cons_zero, List.set_cons_succ]
  refine wpAnyH_take (i := 5) (v := ?_) rfl (by kernel_rfl) (by kernel_rfl) (by kernel_rfl) (fun _ _ _ h => np_any h) (Or.inl ⟨by rfl, ?_⟩) (by assumption) ?_
  rotate_left
  · intro w hSw
    go_simp
    try with_reducible rfl
  try simp only [Act.put, List.setIfInBounds_toArray]
  refine wpAnyH_take (i := 6) (v := ?_) rfl (by kernel_rfl) (by kernel_rfl) (by kernel_rfl) (fun _ _ _ h => np_any h) (Or.inl ⟨by rfl, ?_⟩) (by assumption) ?_
  rotate_left
  · intro w hSw
    go_simp
    try with_reducible rfl
  try simp only [Act.put]
  refine wpAnyH_take (i := 8) (v := ?_) rfl (by kernel_rfl) (by kernel_rfl) (by kernel_rfl) (fun _ _ _ h => np_any h) (Or.inl ⟨by rfl, ?_⟩) (by assumption) ?_
  rotate_left
  · intro w hSw
    go_simp
    try with_reducible rfl
  try simp only [Act.put]
  refine wpAnyH_take (i := 9) (v := ?_) rfl (by kernel_rfl) (by kernel_rfl) (by kernel_rfl) (fun _ _ _ h => np_any h) (Or.inl ⟨by rfl, ?_⟩) (by assumption) ?_
  rotate_left
  · intro w hSw
    go_simp
    try with_reducible rfl
  try simp only [Act.put]
  refine wpAnyH_take (i := 10) (v := ?_) rfl (by kernel_rfl) (by kernel_rfl) (by kernel_rfl) (fun _ _ _ h => np_any h) (Or.inl ⟨by rfl, ?_⟩) (by assumption) ?_
  rotate_left
  · intro w hSw
    go_simp
    try with_reducible rfl
  try simp only [Act.put]
  refine wpAnyH_take (i := 11) (v := ?_) rfl (by kernel_rfl) (by kernel_rfl) (by kernel_rfl) (fun _ _ _ h => np_any h) (Or.inl ⟨by rfl, ?_⟩) (by assumption) ?_
  rotate_left
  · intro w hSw
    go_simp
    try with_reducible rfl
  try simp only [Act.put]
  refine wpAnyH_take (i := 12) (v := ?_) rfl (by kernel_rfl) (by kernel_rfl) (by kernel_rfl) (fun _ _ _ h => np_any h) (Or.inl ⟨by rfl, ?_⟩) (by assumption) ?_
  rotate_left
  · intro w hSw
    go_simp
    try with_reducible rfl
  try simp only [Act.put]
  refine wpAnyH_ready (rs := [7]) (by kernel_rfl) (by simp) ?_
  refine AllReadyH.cons rfl (fun K hK => ?_) AllReadyH.nil
  go_simp
  (refine (words_c _).mono ?_; rintro e w' ⟨rfl, rfl⟩)
  refine hK.out _ _ ?_ (fun hHeld => ?_)
  · first | assumption | exact skA (by assumption) | exact skH (by assumption) hb'
  clear hK K
  try simp only [Act.put, List.setIfInBounds_toArray, List.set_cons_zero, List.set_cons_succ]
  refine wpAnyH_ready (rs := [13]) (by kernel_rfl) (by simp) ?_
  refine AllReadyH.cons rfl (fun K hK => ?_) AllReadyH.nil
  go_simp
  (refine (starts6_c _ _ w).mono ?_; rw [Hdr.out]; rw [Hst.out]; rintro e w' ⟨rfl, hb'⟩)
  refine hK.out _ _ ?_ (fun hHeld => ?_)
  · first | assumption | exact skA (by assumption) | exact skH (by assumption) hb'
  clear hK K
  try simp only [Act.put, List.setIfInBounds_toArray, List.set_cons_zero, List.set_cons_succ]
  refine wpAnyH_take (i := 14) (v := ?_) rfl (by kernel_rfl) (by kernel_rfl) (by kernel_rfl) (fun _ _ _ h => np_any h) (Or.inl ⟨by rfl, ?_⟩) (by assumption) ?_
  rotate_left
  · intro w hSw
    go_simp
    try with_reducible rfl
  try simp only [Act.put, List.setIfInBounds_toArray]
  refine wpAnyH_take (i := 15) (v := ?_) rfl (by kernel_rfl) (by kernel_rfl) (by kernel_rfl) (fun _ _ _ h => np_any h) (Or.inl ⟨by rfl, ?_⟩) (by assumption) ?_
  rotate_left
  · intro w hSw
    go_simp
    try with_reducible rfl
  try simp only [Act.put]
  refine wpAnyH_take (i := 16) (v := ?_) rfl (by kernel_rfl) (by kernel_rfl) (by kernel_rfl) (fun _ _ _ h => np_any h) (Or.inl ⟨by rfl, ?_⟩) (by assumption) ?_
  rotate_left
  · intro w hSw
    go_simp
    try with_reducible rfl
  try simp only [Act.put]
  refine wpAnyH_take (i := 17) (v := undef) rfl (by kernel_rfl) (by kernel_rfl) (by kernel_rfl) (fun _ _ _ h => np_any h) (Or.inr ⟨by rfl, rfl⟩) (by assumption) ?_
  try simp only [Act.put]
  refine wpAnyH_take (i := 18) (v := undef) rfl (by kernel_rfl) (by kernel_rfl) (by kernel_rfl) (fun _ _ _ h => np_any h) (Or.inr ⟨by rfl, rfl⟩) (by assumption) ?_
  try simp only [Act.put]
  refine wpAnyH_take (i := 19) (v := undef) rfl (by kernel_rfl) (by kernel_rfl) (by kernel_rfl) (fun _ _ _ h => np_any h) (Or.inr ⟨by rfl, rfl⟩) (by assumption) ?_
  try simp only [Act.put]
  refine wpAnyH_take (i := 20) (v := undef) rfl (by kernel_rfl) (by kernel_rfl) (by kernel_rfl) (fun _ _ _ h => np_any h) (Or.inr ⟨by rfl, rfl⟩) (by assumption) ?_
  try simp only [Act.put]
  refine wpAnyH_take (i := 21) (v := undef) rfl (by kernel_rfl) (by kernel_rfl) (by kernel_rfl) (fun _ _ _ h => np_any h) (Or.inr ⟨by rfl, rfl⟩) (by assumption) ?_
  try simp only [Act.put]
  refine wpAnyH_ready (rs := [22]) (by kernel_rfl) (by simp) ?_
  refine AllReadyH.cons rfl (fun K hK => ?_) AllReadyH.nil
  go_simp
  refine hK.out _ _ (by assumption) (fun hHeld => ?_)
  clear hK K
  try simp only [Act.put, List.setIfInBounds_toArray, List.set_cons_zero, List.set_cons_succ]
  refine wpAnyH_ready (rs := [23]) (by kernel_rfl) (by simp) ?_
  refine AllReadyH.cons rfl (fun K hK => ?_) AllReadyH.nil
  go_simp
  refine hK.out _ _ (by assumption) (fun hHeld => ?_)
  clear hK K
  try simp only [Act.put, List.setIfInBounds_toArray, List.set_cons_zero, List.set_cons_succ]
  refine wpAnyH_take (i := 24) (v := ?_) rfl (by kernel_rfl) (by kernel_rfl) (by kernel_rfl) (fun _ _ _ h => np_any h) (Or.inl ⟨by rfl, ?_⟩) (by assumption) ?_
  rotate_left
  · intro w hSw
    go_simp
    try with_reducible rfl
  try simp only [Act.put, List.setIfInBounds_toArray]
  refine wpAnyH_done (by kernel_rfl) ?_ _
  refine NoPanic.normal ?_
  obtain ⟨hB1, hR1⟩ := hHeld
  clear hB hR
  rcases Nat.eq_zero_or_pos x with rfl | hx0
  · rcases hci : cI (bt s.data.toList (i + (t))) with _ | _
    · have Hx := Lib.hid (rnum_000 s.data.toList i t Ht0.out Hp0.out Hpw.out hci)
      have Hci := Lib.hid hci
      clear hci
      go_wp2_with fail
      refine (power_c s (i + (t)) (by omega) (by omega) _).mono ?_
      rw [Hpw.out]
      rintro e w1 ⟨rfl, rfl⟩
      obtain ⟨hr0, hr1⟩ := hR1.c2
      obtain ⟨hq0, hq1⟩ := hR1.f2
      go_wp2_with (first | (go_at_call 35; refine (rAt_c s (i + (t)) _).mono ?_; rintro e w' ⟨rfl, rfl⟩) | (go_at_call 34; refine (rInner_c _ _).mono ?_; rw [Hci.out]; rintro e w' ⟨rfl, rfl⟩))
      all_goals first
        | (rw [Hx.out, if_pos (by omega)]
           exact bodyPost_ret (v := tokV none) (resR _ _ _ _ _ _ _ rfl rfl rfl (hR1.set2 _ _)) rfl ⟨rfl, (hB1.st (Nat.le_refl _)).st (Nat.le_refl _)⟩)
        | (refine (rLower_c _ (by rw [ByteArray.size_extract]; omega) _).mono ?_
           rintro e w' ⟨rfl, hb⟩
           rw [sub_ext]
           have hR := hR1.keep hb
           have hB := bt_ hB1 hb
           obtain ⟨hr0, hr1⟩ := hR.c2
           obtain ⟨hq0, hq1⟩ := hR.f2
           clear hb
           go_wp2
           rw [Hx.out, if_neg (by omega)]
           exact bodyPost_ret (v := tokV (some ((kInt, low (sub s.data.toList i (i + (t)))), t))) (resR _ _ _ _ _ _ _ rfl rfl rfl (hR.set2 _ _)) rfl ⟨rfl, (hB.st (Nat.le_refl _)).st (Nat.le_refl _)⟩)
    · have Hx := Lib.hid (rnum_001 s.data.toList i t Ht0.out Hp0.out Hpw.out hci)
      have Hci := Lib.hid hci
      clear hci
      go_wp2_with fail
      refine (power_c s (i + (t)) (by omega) (by omega) _).mono ?_
      rw [Hpw.out]
      rintro e w1 ⟨rfl, rfl⟩
      obtain ⟨hr0, hr1⟩ := hR1.c2
      obtain ⟨hq0, hq1⟩ := hR1.f2
      go_wp2_with (first | (go_at_call 35; refine (rAt_c s (i + (t)) _).mono ?_; rintro e w' ⟨rfl, rfl⟩) | (go_at_call 34; refine (rInner_c _ _).mono ?_; rw [Hci.out]; rintro e w' ⟨rfl, rfl⟩))
      all_goals
        rw [Hx.out]
        exact bodyPost_ret (v := tokV none) (resR _ _ _ _ _ _ _ rfl rfl rfl (hR1.set2 _ _)) rfl ⟨rfl, (hB1.st (Nat.le_refl _)).st (Nat.le_refl _)⟩
  · rcases hci : cI (bt s.data.toList (i + (t + x))) with _ | _
    · have Hx := Lib.hid (rnum_010 s.data.toList i t x Ht0.out Hp0.out Hpw.out hx0 hci)
      have Hci := Lib.hid hci
      clear hci
      go_wp2_with fail
      refine (power_c s (i + (t)) (by omega) (by omega) _).mono ?_
      rw [Hpw.out]
      rintro e w1 ⟨rfl, rfl⟩
      obtain ⟨hr0, hr1⟩ := hR1.c2
      obtain ⟨hq0, hq1⟩ := hR1.f2
      go_wp2_with (first | (go_at_call 35; refine (rAt_c s (i + (t + x)) _).mono ?_; rintro e w' ⟨rfl, rfl⟩) | (go_at_call 34; refine (rInner_c _ _).mono ?_; rw [Hci.out]; rintro e w' ⟨rfl, rfl⟩))
      all_goals first
        | (rw [Hx.out, if_pos (by omega)]
           exact bodyPost_ret (v := tokV none) (resR _ _ _ _ _ _ _ rfl rfl rfl (hR1.set2 _ _)) rfl ⟨rfl, (hB1.st (Nat.le_refl _)).st (Nat.le_refl _)⟩)
        | (refine (rLower_c _ (by rw [ByteArray.size_extract]; omega) _).mono ?_
           rintro e w' ⟨rfl, hb⟩
           rw [sub_ext]
           have hR := hR1.keep hb
           have hB := bt_ hB1 hb
           obtain ⟨hr0, hr1⟩ := hR.c2
           obtain ⟨hq0, hq1⟩ := hR.f2
           clear hb
           go_wp2
           rw [Hx.out, if_neg (by omega)]
           exact bodyPost_ret (v := tokV (some ((kReal, low (sub s.data.toList i (i + (t + x)))), t + x))) (resR _ _ _ _ _ _ _ rfl rfl rfl (hR.set2 _ _)) rfl ⟨rfl, (hB.st (Nat.le_refl _)).st (Nat.le_refl _)⟩)
    · have Hx := Lib.hid (rnum_011 s.data.toList i t x Ht0.out Hp0.out Hpw.out hx0 hci)
      have Hci := Lib.hid hci
      clear hci
      go_wp2_with fail
      refine (power_c s (i + (t)) (by omega) (by omega) _).mono ?_
      rw [Hpw.out]
      rintro e w1 ⟨rfl, rfl⟩
      obtain ⟨hr0, hr1⟩ := hR1.c2
      obtain ⟨hq0, hq1⟩ := hR1.f2
      go_wp2_with (first | (go_at_call 35; refine (rAt_c s (i + (t + x)) _).mono ?_; rintro e w' ⟨rfl, rfl⟩) | (go_at_call 34; refine (rInner_c _ _).mono ?_; rw [Hci.out]; rintro e w' ⟨rfl, rfl⟩))
      all_goals
        rw [Hx.out]
        exact bodyPost_ret (v := tokV none) (resR _ _ _ _ _ _ _ rfl rfl rfl (hR1.set2 _ _)) rfl ⟨rfl, (hB1.st (Nat.le_refl _)).st (Nat.le_refl _)⟩
end Go.Proofs.YtcafnpfhjiaolaaDoor
