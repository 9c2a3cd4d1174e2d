/- Contract of the document's IsText. -/
import Derived.Test.YtdandmbgdndnjaaGreatDoorWrtM
import Derived.Test.YtdandmbgdndnjaaGreatDoorSrcAw
namespace Go.Proofs.YtdandmbgdndnjaaGreatDoor
open Go.RowKit

set_option maxRecDepth 100000 in
set_option maxHeartbeats 4000000 in
theorem rIsText_c (s : ByteArray) (hs : s.size ≤ 1000000) (w : World) :
    Calls Tryz.prog 29 #[.string s] w fun e w' => e = .returned (.bool (isTB s.data.toList)) ∧ Below w.heap.size w w' := by
  obtain ⟨t, ht⟩ : ∃ t : ByteArray, t = ⟨(rtr (ltr s.data.toList)).toArray⟩ := ⟨_, rfl⟩
  obtain ⟨b, hb⟩ : ∃ b : Bool, b = isTB s.data.toList := ⟨_, rfl⟩
  have Ht := Lib.hid ht
  have Hb := Lib.hid hb
  have Hl := Lib.hid (data_len s)
  rw [← hb]
  clear ht hb
  go_enter Tryz.func29, Tryz.ntmps29
  go_wp2_with fail
  · have Hh := Lib.hid (show s.toList = [] by assumption)
    go_ret
    exact ⟨by rw [Hb.out, isT_1 Hh.out]; rfl, Below.refl _ _⟩
  have Hh1 := Lib.hid (show ¬ s.toList = [] by assumption)
  refine (trim_c s hs _).mono ?_
  rw [← Ht.out]
  rintro e w1 ⟨rfl, rfl⟩
  have f1 : s.toList.isEmpty = false := by rw [List.isEmpty_eq_false_iff]; exact Hh1.out
  by_cases h2 : t.toList = s.toList
  rotate_left
  · have f2 : (t.toList == s.toList) = false := by rw [beq_eq_false_iff_ne]; exact h2
    go_wp2
    go_ret
    exact ⟨by rw [Hb.out, isT_2 Ht.out h2]; rfl, Below.refl _ _⟩
  have f2 : (t.toList == s.toList) = true := by rw [beq_iff_eq]; exact h2
  have Hh2 := Lib.hid h2
  clear h2
  go_wp2_with fail
  go_loop [3] (fun t => ∃ k : Nat, k ≤ s.size ∧ t = .int .i64 (k : Int) ∧ prB (s.data.toList.take k) = true) (fun t => s.size - (intOf t).toNat)
  case atStart => exact ⟨0, by omega, rfl, rfl⟩
  case round =>
    obtain ⟨k, hk, rfl, hp⟩ := hrel
    have hk0 : (0 : Int) ≤ (k : Int) := by omega
    by_cases hlt : k < s.size
    · have Hst := Lib.hid (pr_step s k hlt)
      have Hp := Lib.hid hp
      clear hp
      by_cases h3 : s[k].toNat < 32
      · have g1 : decide ((s[k].toNat : Int) < 32) = true := by simp; omega
        have g2 : decide (s[k].toNat < 32) = true := by simp; omega
        have Hf := Lib.hid (isT_3 (L := s.data.toList) (pr_take (k := k + 1) (by rw [Hst.out, decide_eq_false (show ¬ 32 ≤ s[k].toNat by omega)]; simp)))
        clear h3
        go_wp2
        go_ret
        exact ⟨by rw [Hb.out, Hf.out]; rfl, Below.refl _ _⟩
      · have g1 : decide ((s[k].toNat : Int) < 32) = false := by simp; omega
        have g2 : decide (s[k].toNat < 32) = false := by simp; omega
        by_cases h4 : 126 < s[k].toNat
        · have g3 : decide ((126 : Int) < (s[k].toNat : Int)) = true := by simp; omega
          have g4 : decide (126 < s[k].toNat) = true := by simp; omega
          have Hf := Lib.hid (isT_3 (L := s.data.toList) (pr_take (k := k + 1) (by rw [Hst.out, decide_eq_false (show ¬ s[k].toNat ≤ 126 by omega)]; simp)))
          clear h3 h4
          go_wp2
          go_ret
          exact ⟨by rw [Hb.out, Hf.out]; rfl, Below.refl _ _⟩
        · have g3 : decide ((126 : Int) < (s[k].toNat : Int)) = false := by simp; omega
          have g4 : decide (126 < s[k].toNat) = false := by simp; omega
          have Hn := Lib.hid (show prB (s.data.toList.take (k + 1)) = true by rw [Hst.out, Hp.out, decide_eq_true (show 32 ≤ s[k].toNat by omega), decide_eq_true (show s[k].toNat ≤ 126 by omega)]; rfl)
          clear h3 h4
          go_wp2
          go_round
          case rel => exact ⟨k + 1, by omega, by go_num, Hn.out⟩
          case measure => simp [intOf]; omega
    · obtain rfl : k = s.size := by omega
      have hp' : prB s.data.toList = true := by rw [List.take_of_length_le (by rw [data_len]; omega)] at hp; exact hp
      have Hp := Lib.hid hp'
      clear hp hp'
      have hpos : 0 < s.size := by
        rcases Nat.eq_zero_or_pos s.size with h | h
        · exfalso
          apply Hh1.out
          rw [Lib.toList_data]
          exact List.eq_nil_of_length_eq_zero (by rw [data_len]; exact h)
        · exact h
      have Hm := Lib.hid (fun wx => marks_c s hs 0 (by omega) wx)
      have HO1 := Lib.hid (fun wx => rOutside_c s hs 0 59 (by omega) wx)
      have HO2 := Lib.hid (fun wx => rOutside_c s hs 0 33 (by omega) wx)
      have HD := Lib.hid (fun wx => rDigits_c s hs wx)
      have hnl := dgN_le s.data.toList
      rw [data_len] at hnl
      obtain ⟨o, ho⟩ : ∃ o : Nat, o = opB s.data.toList 0 := ⟨_, rfl⟩
      obtain ⟨z1, hz1⟩ : ∃ z : Int, z = foI s.data.toList 0 59 := ⟨_, rfl⟩
      obtain ⟨z2, hz2⟩ : ∃ z : Int, z = foI s.data.toList 0 33 := ⟨_, rfl⟩
      obtain ⟨n, hn⟩ : ∃ n : Nat, n = dgN s.data.toList := ⟨_, rfl⟩
      rw [← hz1] at HO1; rw [← hz2] at HO2; rw [← hn] at HD hnl
      have Ho := Lib.hid ho; have Hz1 := Lib.hid hz1; have Hz2 := Lib.hid hz2; have HN := Lib.hid hn
      have hi1 : (0 : Int) ≤ (s.size : Int) - 1 := by omega
      have hi2 : (s.size : Int) - 1 < (s.size : Int) := by omega
      have hi0 : (0 : Int) ≤ (s.size : Int) := by omega
      have hi3 : (s.size : Int) < (s.size : Int) + 1 := by omega
      clear ho hz1 hz2 hn
      go_wp2_with fail
      refine (Hm.out _).mono ?_
      rintro e w2 ⟨⟨v, rfl, hown⟩, hB⟩
      obtain ⟨g, cap, rfl, hg, hle, hcs⟩ := own_cells hown (by omega)
      have hc : w2.cell? ⟨g, s.size, none⟩ = some (.int .u8 (o : Int)) := by
        have := hcs s.size (.int .u8 (o : Int)) (by
          unfold mkV
          rw [List.getElem?_map, List.getElem?_range (by omega)]
          simp only [Option.map_some]
          rw [List.take_of_length_le (by rw [data_len]; omega), Ho.out])
        exact this
      clear hcs hown
      by_cases h4 : o = 0
      rotate_left
      · have g1 : ((o : Int) == 0) = false := by simp; omega
        have g2 : ((o : Int) != 0) = true := by simp; omega
        have Hf := Lib.hid (isT_4 (L := s.data.toList) (by rw [← Ho.out]; exact h4))
        clear h4
        go_wp2
        go_ret
        exact ⟨by rw [Hb.out, Hf.out]; rfl, hB⟩
      have g1 : ((o : Int) == 0) = true := by simp; omega
      have g2 : ((o : Int) != 0) = false := by simp; omega
      have Hh4 := Lib.hid h4
      clear h4
      go_wp2_with fail
      refine (HO1.out _).mono ?_
      rintro e w3 ⟨rfl, hB3⟩
      have hBB := bt_ hB hB3
      clear hB hB3 hc
      by_cases h6 : foB s.data.toList 0 59 < s.data.toList.length
      · have hz : 0 ≤ z1 := by rw [Hz1.out]; unfold foI; rw [if_pos h6]; omega
        have g3 : decide ((0 : Int) ≤ z1) = true := by simpa using hz
        have Hf := Lib.hid (isT_6 h6)
        clear h6
        go_wp2
        go_ret
        exact ⟨by rw [Hb.out, Hf.out]; rfl, hBB⟩
      have hz : z1 < 0 := by rw [Hz1.out]; unfold foI; rw [if_neg h6]; omega
      have g3 : decide ((0 : Int) ≤ z1) = false := by simpa using hz
      have Hh6 := Lib.hid h6
      clear h6
      go_wp2_with fail
      refine (HO2.out _).mono ?_
      rintro e w4 ⟨rfl, hB4⟩
      have hBC := bt_ hBB hB4
      clear hBB hB4
      by_cases h7 : foB s.data.toList 0 33 < s.data.toList.length
      · have hz9 : 0 ≤ z2 := by rw [Hz2.out]; unfold foI; rw [if_pos h7]; omega
        have g4 : decide ((0 : Int) ≤ z2) = true := by simpa using hz9
        have Hf := Lib.hid (isT_7 h7)
        clear h7
        go_wp2
        go_ret
        exact ⟨by rw [Hb.out, Hf.out]; rfl, hBC⟩
      have hz9 : z2 < 0 := by rw [Hz2.out]; unfold foI; rw [if_neg h7]; omega
      have g4 : decide ((0 : Int) ≤ z2) = false := by simpa using hz9
      have Hh7 := Lib.hid h7
      clear h7
      obtain ⟨q, hq⟩ : ∃ q : Nat, q = bt s.data.toList (s.size - 1) := ⟨_, rfl⟩
      have hlast : s[s.size - 1].toNat = q := by rw [hq]; exact (bt_get s (s.size - 1) (by omega)).symm
      have Hq := Lib.hid hq
      clear hq
      by_cases h5 : q = 38
      · have g5 : ((q : Int) == 38) = true := by simp; omega
        have Hf := Lib.hid (isT_5 (L := s.data.toList) (by rw [← Lib.toList_data]; exact Hh1.out) (by rw [Hl.out, ← Hq.out]; exact h5))
        clear h5
        go_wp2
        go_ret
        exact ⟨by rw [Hb.out, Hf.out]; rfl, hBC⟩
      have g5 : ((q : Int) == 38) = false := by simp; omega
      have Hfin := Lib.hid (isT_fin Ht.out Hh1.out Hh2.out Hp.out (by rw [← Ho.out]; exact Hh4.out) (by rw [Hl.out, ← Hq.out]; exact h5) Hh6.out Hh7.out)
      clear h5
      go_wp2_with fail
      refine (HD.out _).mono ?_
      rintro e w5 ⟨rfl, rfl⟩
      by_cases h8 : n = 0
      · have g6 : ((n : Int) == 0) = true := by simp; omega
        have Hf := Lib.hid (show isTB s.data.toList = true by rw [Hfin.out, decide_eq_true (show dgN s.data.toList = 0 by rw [← HN.out]; exact h8)]; rfl)
        clear h8
        go_wp2
        go_ret
        exact ⟨by rw [Hb.out, Hf.out]; rfl, hBC⟩
      have g6 : ((n : Int) == 0) = false := by simp; omega
      by_cases h9 : n = s.size
      · have g7 : ((n : Int) == (s.size : Int)) = true := by simp; omega
        have Hf := Lib.hid (show isTB s.data.toList = true by rw [Hfin.out, decide_eq_true (show dgN s.data.toList = s.data.toList.length by rw [← HN.out, Hl.out]; exact h9)]; simp)
        clear h8 h9
        go_wp2
        go_ret
        exact ⟨by rw [Hb.out, Hf.out]; rfl, hBC⟩
      have g7 : ((n : Int) == (s.size : Int)) = false := by simp; omega
      have hnlt : n < s.size := by omega
      have hn0 : (0 : Int) ≤ (n : Int) := by omega
      obtain ⟨p, hp⟩ : ∃ p : Nat, p = bt s.data.toList n := ⟨_, rfl⟩
      have hat : s[n].toNat = p := by rw [hp]; exact (bt_get s n hnlt).symm
      have Hf := Lib.hid (show isTB s.data.toList = !decide (p = 32) by
        rw [Hfin.out, ← HN.out, Hl.out, decide_eq_false h8, decide_eq_false h9, ← hp]; rfl)
      clear h8 h9 hp
      by_cases h10 : p = 32
      · have g8 : ((p : Int) == 32) = true := by simp; omega
        have g9 : ((p : Int) != 32) = false := by simp; omega
        have Hff := Lib.hid (show b = false by rw [Hb.out, Hf.out, decide_eq_true h10]; rfl)
        clear h10
        go_wp2
        go_ret
        exact ⟨by rw [Hff.out]; rfl, hBC⟩
      · have g8 : ((p : Int) == 32) = false := by simp; omega
        have g9 : ((p : Int) != 32) = true := by simp; omega
        have Hff := Lib.hid (show b = true by rw [Hb.out, Hf.out, decide_eq_false h10]; rfl)
        clear h10
        go_wp2
        go_ret
        exact ⟨by rw [Hff.out]; rfl, hBC⟩
end Go.Proofs.YtdandmbgdndnjaaGreatDoor
