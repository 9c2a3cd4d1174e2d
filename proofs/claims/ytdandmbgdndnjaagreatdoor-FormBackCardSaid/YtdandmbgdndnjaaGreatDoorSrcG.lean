/- Contract of package source's Comment: which lines are comments. -/
import Derived.Test.YtdandmbgdndnjaaGreatDoorSrcF
import Derived.Test.YtdandmbgdndnjaaGreatDoorShelfN
namespace Go.Proofs.YtdandmbgdndnjaaGreatDoor
open Go.RowKit

theorem idx_nn (l : List UInt8) (c : UInt8) : 0 ≤ Lib.indexByte l c ↔ c ∈ l := by
  induction l with
  | nil => simp [Lib.indexByte]
  | cons b l ih =>
    unfold Lib.indexByte
    have hg := Lib.indexByte_ge l c
    by_cases h1 : b = c
    · simp [h1]
    · have h1' : ¬ c = b := fun e => h1 e.symm
      by_cases h2 : Lib.indexByte l c = -1
      · simp [h1, h1', h2, ← ih]
      · simp [h1, h1', h2, ← ih]; omega
theorem first_one (s : ByteArray) (h : 0 < s.size) : s.extract 0 1 = ⟨#[s[0]]⟩ := by
  have e : (s.extract 0 1).data.toList = (⟨#[s[0]]⟩ : ByteArray).data.toList := by
    rw [sub_ext]
    unfold sub
    rw [List.drop_zero]
    have h2 := List.drop_eq_getElem_cons (l := s.data.toList) (i := 0) (by rw [data_len]; exact h)
    rw [List.drop_zero] at h2
    rw [h2]
    rfl
  cases hx : s.extract 0 1
  rw [hx] at e
  have := congrArg List.toArray e
  simpa using this
theorem first_in (c : UInt8) : decide (0 ≤ Lib.indexByte [67, 99, 42, 33] c) = decide (c.toNat = 67 ∨ c.toNat = 99 ∨ c.toNat = 42 ∨ c.toNat = 33) := by
  rw [decide_eq_decide, idx_nn]
  simp only [List.mem_cons, List.not_mem_nil, or_false, ← UInt8.toNat_inj]
  rfl

set_option maxRecDepth 100000 in
set_option maxHeartbeats 1000000 in
theorem Comment_c (s : ByteArray) (old : Bool) (w : World) : Calls Tryz.prog 16 #[.string s, .bool old] w fun e w' => e = .returned (.bool (cmQ s.data.toList old)) ∧ w = w' := by
  have Ht := Lib.hid (Tryz.strings_TrimLeft_one s 32 (by decide) w)
  have Hd := Lib.hid (show Lib.trimLeftB s.data.toList 32 = ltr s.data.toList from rfl)
  rcases hl : ltr s.data.toList with _ | ⟨c, r⟩
  · have Hx := Lib.hid (show cmQ s.data.toList old = true by unfold cmQ; rw [hl])
    have Hr := Lib.hid hl
    clear hl
    go_enter Tryz.func16, Tryz.ntmps16
    go_wp2_with fail
    refine Ht.out.mono ?_
    rw [Hd.out, Hr.out]
    rintro e w' ⟨rfl, rfl⟩
    go_wp2
    go_ret
    exact ⟨ret_b (by rw [Hx.out]), rfl⟩
  · have h0 := ltr_size hl
    obtain ⟨o, ho⟩ : ∃ o : ByteArray, o = ⟨(c :: r).toArray⟩ := ⟨_, rfl⟩
    have Hr := Lib.hid (show (⟨(Lib.trimLeftB s.data.toList 32).toArray⟩ : ByteArray) = o by rw [Hd.out, hl, ho])
    have hos : 0 < o.size := by
      have : o.size = (c :: r).length := by rw [ho]; rfl
      rw [this]; simp
    have hoc : o[0] = c := by subst ho; rfl
    have hon : (o.toList == []) = false := by
      rw [Lib.toList_data, ho]; rfl
    have hb0 := bt_get s 0 h0
    cases old
    · have Hx := Lib.hid (show cmQ s.data.toList false = ((o[0].toNat : Int) == 33) by
        unfold cmQ; rw [hl, hoc, Bool.eq_iff_iff]; simp; omega)
      clear hl ho hoc hb0
      go_enter Tryz.func16, Tryz.ntmps16
      go_wp2_with fail
      refine Ht.out.mono ?_
      rw [Hr.out]
      rintro e w' ⟨rfl, rfl⟩
      go_wp2
      go_ret
      exact ⟨ret_b (by rw [Hx.out]), rfl⟩
    · have Hx := Lib.hid (show cmQ s.data.toList true = decide ((0 : Int) ≤ Lib.indexByte [67, 99, 42, 33] s[0]) by
        rw [first_in]; unfold cmQ; rw [hl, hb0]; rfl)
      have Hc := Lib.hid (Tryz.strings_Contains_one ⟨#[67, 99, 42, 33]⟩ s[0])
      have Hf := Lib.hid (first_one s h0)
      clear hl ho hoc hb0
      go_enter Tryz.func16, Tryz.ntmps16
      go_wp2_with fail
      refine Ht.out.mono ?_
      rw [Hr.out]
      rintro e w' ⟨rfl, rfl⟩
      go_wp2_with fail
      rw [Hf.out]
      refine (Hc.out _).mono ?_
      rintro e w' ⟨rfl, rfl⟩
      go_wp2
      go_ret
      exact ⟨ret_b (by rw [Hx.out]), rfl⟩
end Go.Proofs.YtdandmbgdndnjaaGreatDoor
