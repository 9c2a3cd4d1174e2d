/- Contracts of the document's side: a text without blanks at its ends; which lines are comments. -/
import Derived.Test.YtdandmbgdndnjaaGreatDoorSrcA
namespace Go.Proofs.YtdandmbgdndnjaaGreatDoor
open Go.RowKit

/-- A text without blanks at its begin, and at its end. -/
def ltr (L : List UInt8) : List UInt8 := L.dropWhile fun c => c == 32
def rtr (L : List UInt8) : List UInt8 := (L.reverse.dropWhile fun c => c == 32).reverse
def szOf : Value → Nat
  | .string b => b.size
  | _ => 0
theorem data_len (o : ByteArray) : o.data.toList.length = o.size := by simp
theorem ltr_step {o : ByteArray} (h : 0 < o.size) (h1 : o[0] = 32) : ltr (o.extract 1 o.size).data.toList = ltr o.data.toList := by
  have e : o.data.toList = (32 : UInt8) :: (o.extract 1 o.size).data.toList := by
    rw [sub_ext]
    unfold sub
    have h2 := List.drop_eq_getElem_cons (l := o.data.toList) (i := 0) (by rw [data_len]; exact h)
    rw [List.drop_zero] at h2
    have h3 : o.data.toList[0]'(by rw [data_len]; exact h) = 32 := h1
    rw [h3] at h2
    rw [List.take_of_length_le (by rw [List.length_drop, data_len]; omega)]
    exact h2
  rw [e]
  unfold ltr
  rw [List.dropWhile_cons_of_pos (by decide)]
theorem ltr_stop {o : ByteArray} (h : ∀ h0 : 0 < o.size, o[0] ≠ 32) : ltr o.data.toList = o.data.toList := by
  unfold ltr
  rcases hL : o.data.toList with _ | ⟨c, L⟩
  · rfl
  · have h0 : 0 < o.size := by rw [← data_len, hL]; simp
    have h1 : o[0] = c := by
      have : o.data.toList[0]'(by rw [data_len]; exact h0) = c := by simp [hL]
      exact this
    rw [List.dropWhile_cons_of_neg]
    have := h h0
    rw [h1] at this
    simpa using this
theorem rtr_step {o : ByteArray} (h : 0 < o.size) (h1 : o[o.size - 1] = 32) : rtr (o.extract 0 (o.size - 1)).data.toList = rtr o.data.toList := by
  have e : o.data.toList = (o.extract 0 (o.size - 1)).data.toList ++ [(32 : UInt8)] := by
    rw [sub_ext]
    unfold sub
    rw [List.drop_zero]
    have h2 := List.take_append_drop (o.size - 1) o.data.toList
    have h3 := List.drop_eq_getElem_cons (l := o.data.toList) (i := o.size - 1) (by rw [data_len]; omega)
    have h4 : o.data.toList[o.size - 1]'(by rw [data_len]; omega) = 32 := h1
    have h5 : o.data.toList.drop (o.size - 1 + 1) = [] := List.drop_of_length_le (by rw [data_len]; omega)
    rw [h4, h5] at h3
    rw [h3] at h2
    exact h2.symm
  rw [e]
  unfold rtr
  rw [List.reverse_append]
  simp
theorem rtr_stop {o : ByteArray} (h : ∀ h0 : 0 < o.size, o[o.size - 1] ≠ 32) : rtr o.data.toList = o.data.toList := by
  unfold rtr
  rcases hL : o.data.toList.reverse with _ | ⟨c, L⟩
  · have : o.data.toList = [] := by simpa using hL
    rw [this]; rfl
  · have hL2 : o.data.toList = L.reverse ++ [c] := by rw [← List.reverse_reverse o.data.toList, hL]; simp
    have hlen : o.size = L.length + 1 := by rw [← data_len, hL2]; simp
    have h1 : o[o.size - 1]'(by omega) = c := by
      have : o.data.toList[o.size - 1]'(by rw [data_len]; omega) = c := by
        simp only [hL2]
        rw [List.getElem_append_right (by simp; omega)]
        simp
      exact this
    rw [List.dropWhile_cons_of_neg]
    · rw [← hL, List.reverse_reverse]
    · have := h (by omega)
      rw [h1] at this
      simpa using this

set_option maxRecDepth 100000 in
set_option maxHeartbeats 1000000 in
theorem right_c (s : ByteArray) (hs : s.size ≤ 1000000) (w : World) : Calls Tryz.prog 59 #[.string s] w fun e w' => e = .returned (.string ⟨(rtr s.data.toList).toArray⟩) ∧ w = w' := by
  go_enter Tryz.func59, Tryz.ntmps59
  go_wp2_with fail
  go_loop [0] (fun a => ∃ o : ByteArray, a = .string o ∧ o.size ≤ s.size ∧ rtr o.data.toList = rtr s.data.toList) (fun a => szOf a)
  case atStart => exact ⟨s, rfl, Nat.le_refl _, rfl⟩
  case round =>
    obtain ⟨o, rfl, ho, hr⟩ := hrel
    by_cases h0 : 0 < o.size
    · have hw : IntKind.i64.wrap ((o.size : Int) - 1) = ((o.size - 1 : Nat) : Int) := by rw [IntWalk.i64_in _ (by omega)]; omega
      by_cases h1 : o[o.size - 1] = 32
      · have hb : ((o[o.size - 1].toNat : Int) == 32) = true := by rw [h1]; rfl
        have Hst := Lib.hid ((rtr_step h0 h1).trans hr)
        clear h1 hr
        go_wp2
        go_round
        case rel => exact ⟨_, rfl, by rw [ByteArray.size_extract]; omega, Hst.out⟩
        case measure => simp only [szOf]; rw [ByteArray.size_extract]; omega
      · have hb : ((o[o.size - 1].toNat : Int) == 32) = false := by
          have : o[o.size - 1].toNat ≠ 32 := fun e => h1 (UInt8.toNat_inj.1 e)
          simp; omega
        have Hst := Lib.hid ((rtr_stop fun _ => h1).symm.trans hr)
        clear h1 hr
        go_wp2
        go_ret
        exact ⟨by rw [← Hst.out]; cases o; simp, rfl⟩
    · have Hst := Lib.hid ((rtr_stop fun h => absurd h h0).symm.trans hr)
      clear hr
      go_wp2
      go_ret
      exact ⟨by rw [← Hst.out]; cases o; simp, rfl⟩

set_option maxRecDepth 100000 in
set_option maxHeartbeats 1000000 in
theorem trim_c (s : ByteArray) (hs : s.size ≤ 1000000) (w : World) : Calls Tryz.prog 32 #[.string s] w fun e w' => e = .returned (.string ⟨(rtr (ltr s.data.toList)).toArray⟩) ∧ w = w' := by
  go_enter Tryz.func32, Tryz.ntmps32
  go_wp2_with fail
  go_loop [0] (fun a => ∃ o : ByteArray, a = .string o ∧ o.size ≤ s.size ∧ ltr o.data.toList = ltr s.data.toList) (fun a => szOf a)
  case atStart => exact ⟨s, rfl, Nat.le_refl _, rfl⟩
  case round =>
    obtain ⟨o, rfl, ho, hr⟩ := hrel
    by_cases h0 : 0 < o.size
    · by_cases h1 : o[0] = 32
      · have hb : ((o[0].toNat : Int) == 32) = true := by rw [h1]; rfl
        have Hst := Lib.hid ((ltr_step h0 h1).trans hr)
        clear h1 hr
        go_wp2
        go_round
        case rel => exact ⟨_, rfl, by rw [ByteArray.size_extract]; omega, Hst.out⟩
        case measure => simp only [szOf]; rw [ByteArray.size_extract]; omega
      · have hb : ((o[0].toNat : Int) == 32) = false := by
          have : o[0].toNat ≠ 32 := fun e => h1 (UInt8.toNat_inj.1 e)
          simp; omega
        have Hst := Lib.hid ((ltr_stop fun _ => h1).symm.trans hr)
        clear h1 hr
        go_wp2_with fail
        refine (right_c o (by omega) _).mono ?_
        rw [Hst.out]
        rintro e w' ⟨rfl, rfl⟩
        go_wp2
        go_ret
        exact ⟨rfl, rfl⟩
    · have Hst := Lib.hid ((ltr_stop fun h => absurd h h0).symm.trans hr)
      clear hr
      go_wp2_with fail
      refine (right_c o (by omega) _).mono ?_
      rw [Hst.out]
      rintro e w' ⟨rfl, rfl⟩
      go_wp2
      go_ret
      exact ⟨rfl, rfl⟩
end Go.Proofs.YtdandmbgdndnjaaGreatDoor
