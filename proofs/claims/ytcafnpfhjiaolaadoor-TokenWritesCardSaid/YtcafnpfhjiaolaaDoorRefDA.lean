/- Contract of the document's answer's number, one of its ways: the number at a place. -/
import Derived.Test.YtcafnpfhjiaolaaDoorRefE
namespace Go.Proofs.YtcafnpfhjiaolaaDoor
open Go.RowKit

set_option maxRecDepth 100000 in
set_option maxHeartbeats 4000000 in
theorem number_A (s : ByteArray) (i t : Nat) (hs : s.size ≤ 400000) (w : World) (hr : bt s.data.toList (i + t) ≠ 46)
    (ht : rn cD s.data.toList i = i + t) (hp : pbP s.data.toList (i + t) = false) (hm : i + (t + powN s.data.toList (i + (t))) ≤ s.size) :
    Calls Tryd.prog 38 #[.string s, .int .i64 (i : Int)] w fun e w' => e = .returned (tokV ((numP s.data.toList i).map fun r => (r.1, r.2 - i))) ∧ Below w.heap.size w w' := by
  have hR := Has.new w [.string ⟨#[]⟩, .string ⟨#[]⟩] 30
  have hB : Below w.heap.size w (w.alloc (.cells #[.string ⟨#[]⟩, .string ⟨#[]⟩] 30)) := (Below.refl _ _).alloc (Nat.le_refl _) _
  have Hd := Lib.hid (digits_c s i (by omega) (by omega) (w.alloc (.cells #[.string ⟨#[]⟩, .string ⟨#[]⟩] 30)))
  have Ht := Lib.hid (show rn cD s.data.toList i - i = t by omega)
  have Ht0 := Lib.hid ht; have Hp0 := Lib.hid hp
  have Hr := Lib.hid hr
  clear ht hp 
  have hr' : ((bt s.data.toList (i + t) : Int) == 46) = false := by simp; omega
  clear hr
  have hw1 : IntKind.i64.wrap ((i : Int) + (t : Int)) = i + t := IntWalk.i64_in _ (by omega)
  obtain ⟨x, hx⟩ : ∃ x, powN s.data.toList (i + (t)) = x := ⟨_, rfl⟩
  rw [hx] at hm
  have Hpw := Lib.hid hx
  clear hx
  go_enter Tryd.func38, Tryd.ntmps38
  go_wp2_with fail
  refine Hd.out.mono ?_
  rw [Ht.out]
  rintro e w1 ⟨rfl, rfl⟩
  go_wp2_with fail
  go_quiet (first | (go_at_call 35; exact Calls.quiet_of_same ((rAt_c s (i + t) _).mono fun _ _ h => ⟨h.1, h.2.symm⟩)))
  have hB1 := below_drewN hB nq
  have hR1 := hR.drewN nq
  clear hB hR
  rcases Nat.eq_zero_or_pos x with rfl | hx0
  · rcases hci : cI (bt s.data.toList (i + (t))) with _ | _
    · have Hx := Lib.hid (rnum_000 s.data.toList i t Ht0.out Hp0.out Hpw.out hci)
      have Hci := Lib.hid hci
      clear hci
      go_wp2_with fail
      refine (power_c s (i + (t)) (by omega) (by omega) _).mono ?_
      rw [Hpw.out]
      rintro e w1 ⟨rfl, rfl⟩
      obtain ⟨hr0, hr1⟩ := hR1.c2
      obtain ⟨hq0, hq1⟩ := hR1.f2
      go_wp2_with (first | (go_at_call 35; refine (rAt_c s (i + (t)) _).mono ?_; rintro e w' ⟨rfl, rfl⟩) | (go_at_call 34; refine (rInner_c _ _).mono ?_; rw [Hci.out]; rintro e w' ⟨rfl, rfl⟩))
      all_goals first
        | (rw [Hx.out, if_pos (by omega)]
           exact bodyPost_ret (v := tokV none) (resR _ _ _ _ _ _ _ rfl rfl rfl (hR1.set2 _ _)) rfl ⟨rfl, (hB1.st (Nat.le_refl _)).st (Nat.le_refl _)⟩)
        | (refine (rLower_c _ (by rw [ByteArray.size_extract]; omega) _).mono ?_
           rintro e w' ⟨rfl, hb⟩
           rw [sub_ext]
           have hR := hR1.keep hb
           have hB := bt_ hB1 hb
           obtain ⟨hr0, hr1⟩ := hR.c2
           obtain ⟨hq0, hq1⟩ := hR.f2
           clear hb
           go_wp2
           rw [Hx.out, if_neg (by omega)]
           exact bodyPost_ret (v := tokV (some ((kInt, low (sub s.data.toList i (i + (t)))), t))) (resR _ _ _ _ _ _ _ rfl rfl rfl (hR.set2 _ _)) rfl ⟨rfl, (hB.st (Nat.le_refl _)).st (Nat.le_refl _)⟩)
    · have Hx := Lib.hid (rnum_001 s.data.toList i t Ht0.out Hp0.out Hpw.out hci)
      have Hci := Lib.hid hci
      clear hci
      go_wp2_with fail
      refine (power_c s (i + (t)) (by omega) (by omega) _).mono ?_
      rw [Hpw.out]
      rintro e w1 ⟨rfl, rfl⟩
      obtain ⟨hr0, hr1⟩ := hR1.c2
      obtain ⟨hq0, hq1⟩ := hR1.f2
      go_wp2_with (first | (go_at_call 35; refine (rAt_c s (i + (t)) _).mono ?_; rintro e w' ⟨rfl, rfl⟩) | (go_at_call 34; refine (rInner_c _ _).mono ?_; rw [Hci.out]; rintro e w' ⟨rfl, rfl⟩))
      all_goals
        rw [Hx.out]
        exact bodyPost_ret (v := tokV none) (resR _ _ _ _ _ _ _ rfl rfl rfl (hR1.set2 _ _)) rfl ⟨rfl, (hB1.st (Nat.le_refl _)).st (Nat.le_refl _)⟩
  · rcases hci : cI (bt s.data.toList (i + (t + x))) with _ | _
    · have Hx := Lib.hid (rnum_010 s.data.toList i t x Ht0.out Hp0.out Hpw.out hx0 hci)
      have Hci := Lib.hid hci
      clear hci
      go_wp2_with fail
      refine (power_c s (i + (t)) (by omega) (by omega) _).mono ?_
      rw [Hpw.out]
      rintro e w1 ⟨rfl, rfl⟩
      obtain ⟨hr0, hr1⟩ := hR1.c2
      obtain ⟨hq0, hq1⟩ := hR1.f2
      go_wp2_with (first | (go_at_call 35; refine (rAt_c s (i + (t + x)) _).mono ?_; rintro e w' ⟨rfl, rfl⟩) | (go_at_call 34; refine (rInner_c _ _).mono ?_; rw [Hci.out]; rintro e w' ⟨rfl, rfl⟩))
      all_goals first
        | (rw [Hx.out, if_pos (by omega)]
           exact bodyPost_ret (v := tokV none) (resR _ _ _ _ _ _ _ rfl rfl rfl (hR1.set2 _ _)) rfl ⟨rfl, (hB1.st (Nat.le_refl _)).st (Nat.le_refl _)⟩)
        | (refine (rLower_c _ (by rw [ByteArray.size_extract]; omega) _).mono ?_
           rintro e w' ⟨rfl, hb⟩
           rw [sub_ext]
           have hR := hR1.keep hb
           have hB := bt_ hB1 hb
           obtain ⟨hr0, hr1⟩ := hR.c2
           obtain ⟨hq0, hq1⟩ := hR.f2
           clear hb
           go_wp2
           rw [Hx.out, if_neg (by omega)]
           exact bodyPost_ret (v := tokV (some ((kReal, low (sub s.data.toList i (i + (t + x)))), t + x))) (resR _ _ _ _ _ _ _ rfl rfl rfl (hR.set2 _ _)) rfl ⟨rfl, (hB.st (Nat.le_refl _)).st (Nat.le_refl _)⟩)
    · have Hx := Lib.hid (rnum_011 s.data.toList i t x Ht0.out Hp0.out Hpw.out hx0 hci)
      have Hci := Lib.hid hci
      clear hci
      go_wp2_with fail
      refine (power_c s (i + (t)) (by omega) (by omega) _).mono ?_
      rw [Hpw.out]
      rintro e w1 ⟨rfl, rfl⟩
      obtain ⟨hr0, hr1⟩ := hR1.c2
      obtain ⟨hq0, hq1⟩ := hR1.f2
      go_wp2_with (first | (go_at_call 35; refine (rAt_c s (i + (t + x)) _).mono ?_; rintro e w' ⟨rfl, rfl⟩) | (go_at_call 34; refine (rInner_c _ _).mono ?_; rw [Hci.out]; rintro e w' ⟨rfl, rfl⟩))
      all_goals
        rw [Hx.out]
        exact bodyPost_ret (v := tokV none) (resR _ _ _ _ _ _ _ rfl rfl rfl (hR1.set2 _ _)) rfl ⟨rfl, (hB1.st (Nat.le_refl _)).st (Nat.le_refl _)⟩
end Go.Proofs.YtcafnpfhjiaolaaDoor
