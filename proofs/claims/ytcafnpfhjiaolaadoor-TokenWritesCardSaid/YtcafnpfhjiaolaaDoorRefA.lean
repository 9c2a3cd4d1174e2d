/- Contracts of the small functions of the document's answer: which byte is a letter or a digit, the byte at a place, how many digits stand there, small letters, the lists of words and signs. -/
import Derived.Test.YtcafnpfhjiaolaaDoorTokB
import Derived.Laws.BytesArg
namespace Go.Proofs.YtcafnpfhjiaolaaDoor
open Go.RowKit

set_option maxHeartbeats 400000 in
theorem rLetter_c (c : Nat) (w : World) : Calls Tryd.prog 33 #[.int .u8 (c : Int)] w fun e w' => e = .returned (.bool (cL c)) ∧ w = w' := by
  go_enter Tryd.func33, Tryd.ntmps33
  go_wp2
  all_goals
    go_ret
    exact ⟨ret_b (by unfold cL; first | exact dec_t (by omega) | exact dec_f (by omega) | exact dec_c (by omega) | (rw [Bool.eq_iff_iff]; simp only [Bool.or_eq_true, decide_eq_true_eq]; omega)), rfl⟩
set_option maxHeartbeats 400000 in
theorem rDigit_c (c : Nat) (w : World) : Calls Tryd.prog 37 #[.int .u8 (c : Int)] w fun e w' => e = .returned (.bool (cD c)) ∧ w = w' := by
  go_enter Tryd.func37, Tryd.ntmps37
  go_wp2
  all_goals
    go_ret
    exact ⟨ret_b (by unfold cD; first | exact dec_t (by omega) | exact dec_f (by omega) | exact dec_c (by omega)), rfl⟩
set_option maxHeartbeats 400000 in
theorem rInner_c (c : Nat) (w : World) : Calls Tryd.prog 34 #[.int .u8 (c : Int)] w fun e w' => e = .returned (.bool (cI c)) ∧ w = w' := by
  have h1 : cI c = (cL c || cD c || ((c : Int) == 95)) := by
    unfold cI; congr 1; rw [Bool.eq_iff_iff]; simp; omega
  rw [h1]
  generalize h2 : cL c = bl; generalize h3 : cD c = bd
  have H2 := Lib.hid h2; have H3 := Lib.hid h3; clear h1 h2 h3
  cases bl <;> cases bd
  all_goals
    go_enter Tryd.func34, Tryd.ntmps34
    go_wp2_with (first | (go_at_call 33; refine (rLetter_c _ _).mono ?_; rw [H2.out]; rintro e w' ⟨rfl, rfl⟩) | (go_at_call 37; refine (rDigit_c _ _).mono ?_; rw [H3.out]; rintro e w' ⟨rfl, rfl⟩))
    go_ret
    exact ⟨ret_b (by simp), rfl⟩
set_option maxHeartbeats 400000 in
theorem rAt_c (s : ByteArray) (i : Nat) (w : World) : Calls Tryd.prog 35 #[.string s, .int .i64 (i : Int)] w fun e w' => e = .returned (.int .u8 (bt s.data.toList i : Int)) ∧ w = w' := by
  by_cases hlt : i < s.size
  · have Hb := Lib.hid (bt_get s i hlt)
    rw [Hb.out]
    go_enter Tryd.func35, Tryd.ntmps35
    go_wp2
    go_ret
    exact ⟨rfl, rfl⟩
  · have Hb := Lib.hid (bt_out (L := s.data.toList) (i := i) (by simp; omega))
    rw [Hb.out]
    go_enter Tryd.func35, Tryd.ntmps35
    go_wp2
    go_ret
    exact ⟨rfl, rfl⟩

set_option maxRecDepth 100000 in
set_option maxHeartbeats 1000000 in
theorem digits_c (s : ByteArray) (i : Nat) (hi : i ≤ 1000000) (hs : s.size ≤ 1000000) (w : World) :
    Calls Tryd.prog 57 #[.string s, .int .i64 (i : Int)] w fun e w' => e = .returned (.int .i64 ((rn cD s.data.toList i - i : Nat) : Int)) ∧ w = w' := by
  have hl : s.data.toList.length = s.size := by simp
  go_enter Tryd.func57, Tryd.ntmps57
  go_wp2
  go_loop [5] (fun t => ∃ k : Nat, k ≤ s.size ∧ t = .int .i64 (k : Int) ∧ rn cD s.data.toList i = rn cD s.data.toList (i + k)) (fun t => s.size - (intOf t).toNat)
  case atStart => exact ⟨0, by omega, rfl, rfl⟩
  case round =>
    obtain ⟨k, hk, rfl, hr⟩ := hrel
    have Hr := Lib.hid hr; clear hr
    rcases hp : cD (bt s.data.toList (i + k)) with _ | _
    · have Hfin := Lib.hid (show rn cD s.data.toList i - i = k by rw [Hr.out, rn_stop fun _ => hp]; omega)
      have Hp := Lib.hid hp
      clear hp hl
      go_wp2_with fail
      refine (rAt_c s (i + k) _).mono ?_
      rintro e w' ⟨rfl, rfl⟩
      go_wp2_with fail
      refine (rDigit_c _ _).mono ?_
      rw [Hp.out]
      rintro e w' ⟨rfl, rfl⟩
      go_wp2
      go_ret
      exact ⟨ret_i (by rw [Hfin.out]), rfl⟩
    · have hin := in_of (p := cD) rfl hp
      have Hst := Lib.hid (show rn cD s.data.toList i = rn cD s.data.toList (i + (k + 1)) by rw [Hr.out, rn_step hin hp]; rfl)
      have Hp := Lib.hid hp
      have hk2 : k + 1 ≤ s.size := by omega
      clear hp hl hin
      go_wp2_with fail
      refine (rAt_c s (i + k) _).mono ?_
      rintro e w' ⟨rfl, rfl⟩
      go_wp2_with fail
      refine (rDigit_c _ _).mono ?_
      rw [Hp.out]
      rintro e w' ⟨rfl, rfl⟩
      go_wp2
      go_round
      case rel => exact ⟨k + 1, hk2, by go_num, Hst.out⟩
      case measure => simp [intOf]; omega

theorem conv1 (w : World) (c : Int) : (convert 34 9 (.slice (some ⟨w.heap.size, 0, none⟩) 1 1)).run Tryd.prog (w.alloc (.cells #[.int .u8 c] 5)) = .ok (.string ⟨#[UInt8.ofNat c.toNat]⟩) (w.alloc (.cells #[.int .u8 c] 5)) := by
  have h := run_convert_bytes_arg (P := Tryd.prog) (w.alloc (.cells #[.int .u8 c] 5)) 34 5 Tryd.underlying34 Tryd.underlying5 w.heap.size 0 1 1 [c] rfl (fun i hi => by
    have : i = 0 := by omega
    subst this
    exact (Has.new w [.int .u8 c] 5).c1) 9 Tryd.underlying9
  exact h

/-- The relation at the head of Lower's loop. -/
def LRel (s : ByteArray) (w : World) (x y : Value) (wr : World) : Prop :=
  ∃ (k : Nat) (o : ByteArray), k ≤ s.size ∧ y = .int .i64 (k : Int) ∧ x = .string o ∧ o.data.toList = low (s.data.toList.take k) ∧ o.size ≤ k ∧ Below w.heap.size w wr
theorem low_snoc (s o : ByteArray) (c : UInt8) (k : Nat) (h : k < s.size) (ho : o.data.toList = low (s.data.toList.take k)) (hc : c = loB s[k]) : (o ++ (⟨#[c]⟩ : ByteArray)).data.toList = low (s.data.toList.take (k + 1)) := by
  rw [List.take_add_one, List.getElem?_eq_getElem (by simpa using h)]
  unfold low at ho ⊢
  rw [List.map_append, ← ho, hc]
  simp [ByteArray.data_append]
  rfl
set_option maxRecDepth 100000 in
set_option maxHeartbeats 1000000 in
theorem rLower_c (s : ByteArray) (hs : s.size ≤ 1000000) (w : World) :
    Calls Tryd.prog 36 #[.string s] w fun e w' => e = .returned (.string ⟨(low s.data.toList).toArray⟩) ∧ Below w.heap.size w w' := by
  go_enter Tryd.func36, Tryd.ntmps36
  go_wp2
  go_loopw [3, 4] (fun x y wr => LRel s w x y wr) (fun _ y _ => s.size - (intOf y).toNat)
  case atStart => exact ⟨0, ⟨#[]⟩, by omega, rfl, rfl, rfl, by decide, Below.refl _ _⟩
  case round =>
    obtain ⟨k, o, hk, rfl, rfl, ho, hos, hB⟩ := hrel
    have Ho := Lib.hid ho; clear ho
    by_cases hlt : k < s.size
    · have hcv := conv1 wr
      have h1 : ∀ c : UInt8, (⟨#[c]⟩ : ByteArray).size = 1 := fun _ => rfl
      have H1 := Lib.hid h1; clear h1
      go_wp2
      · exact ⟨⟨k + 1, _, by omega, by go_num, rfl, low_snoc s o _ k hlt Ho.out (by unfold loB; rw [if_pos (by omega)]), by rw [ByteArray.size_append, H1.out]; omega, hB.alloc hB.size _⟩, by simp [intOf]; omega⟩
      · exact ⟨⟨k + 1, _, by omega, by go_num, rfl, low_snoc s o _ k hlt Ho.out (by unfold loB; rw [if_neg (by omega)]), by rw [ByteArray.size_append, H1.out]; omega, hB.alloc hB.size _⟩, by simp [intOf]; omega⟩
      · exact ⟨⟨k + 1, _, by omega, by go_num, rfl, low_snoc s o _ k hlt Ho.out (by unfold loB; rw [if_neg (by omega)]), by rw [ByteArray.size_append, H1.out]; omega, hB.alloc hB.size _⟩, by simp [intOf]; omega⟩
    · have hfin : s.data.toList.take k = s.data.toList := List.take_of_length_le (by simp; omega)
      have Hfin := Lib.hid (show o = ⟨(low s.data.toList).toArray⟩ by
        have := Ho.out
        rw [hfin] at this
        rw [← this])
      clear hfin
      go_wp2
      go_ret
      rw [← Hfin.out]
      exact ⟨rfl, hB⟩
end Go.Proofs.YtcafnpfhjiaolaaDoor
