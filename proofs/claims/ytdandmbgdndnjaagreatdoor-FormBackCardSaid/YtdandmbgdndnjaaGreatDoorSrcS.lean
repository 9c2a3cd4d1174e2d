/- Contract of isStatement. -/
import Derived.Test.YtdandmbgdndnjaaGreatDoorSrcR
namespace Go.Proofs.YtdandmbgdndnjaaGreatDoor
open Go.RowKit

/-- Whether a text is that of a statement, but for its bytes. -/
def isStB (L : List UInt8) : Bool :=
  !L.isEmpty && decide (Lib.trimB L 32 = L) && (cutP L).1.isEmpty && decide (opB L 0 = 0) && !Lib.hasSuffix L [38] && decide (foB L 0 59 = L.length) && decide (foB L 0 33 = L.length)

theorem isSt_1 {s : ByteArray} (h : s.toList = []) : isStB s.data.toList = false := by
  rw [Lib.toList_data] at h
  rw [h]; rfl
theorem isSt_2 {s t : ByteArray} (ht : t = ⟨(Lib.trimB s.data.toList 32).toArray⟩) (h : ¬ t.toList = s.toList) : isStB s.data.toList = false := by
  rw [Lib.toList_data, Lib.toList_data, ht] at h
  unfold isStB
  rw [decide_eq_false (show ¬ Lib.trimB s.data.toList 32 = s.data.toList from h)]
  simp
theorem isSt_3 {s d : ByteArray} (hd : d = ⟨(cutP s.data.toList).1.toArray⟩) (h : ¬ d.toList = []) : isStB s.data.toList = false := by
  rw [Lib.toList_data, hd] at h
  have h' : ¬ (cutP s.data.toList).1 = [] := h
  unfold isStB
  rw [show (cutP s.data.toList).1.isEmpty = false by rw [List.isEmpty_eq_false_iff]; exact h']
  simp
theorem isSt_4 {L : List UInt8} (h : ¬ opB L 0 = 0) : isStB L = false := by
  unfold isStB; rw [decide_eq_false h]; simp
theorem isSt_5 {L : List UInt8} (h : Lib.hasSuffix L [38] = true) : isStB L = false := by
  unfold isStB; rw [h]; simp
theorem isSt_6 {L : List UInt8} (h : ¬ foB L 0 59 = L.length) : isStB L = false := by
  unfold isStB; rw [decide_eq_false h]; simp
theorem isSt_7 {L : List UInt8} (h : ¬ foB L 0 33 = L.length) : isStB L = false := by
  unfold isStB; rw [decide_eq_false h]; simp
theorem isSt_ok {s t d : ByteArray} (ht : t = ⟨(Lib.trimB s.data.toList 32).toArray⟩) (hd : d = ⟨(cutP s.data.toList).1.toArray⟩) (h1 : ¬ s.toList = []) (h2 : t.toList = s.toList) (h3 : d.toList = [])
    (h4 : opB s.data.toList 0 = 0) (h5 : Lib.hasSuffix s.data.toList [38] = false) (h6 : foB s.data.toList 0 59 = s.data.toList.length) (h7 : foB s.data.toList 0 33 = s.data.toList.length) : isStB s.data.toList = true := by
  rw [Lib.toList_data] at h1
  rw [Lib.toList_data, Lib.toList_data, ht] at h2
  rw [Lib.toList_data, hd] at h3
  have h3' : (cutP s.data.toList).1 = [] := h3
  unfold isStB
  rw [decide_eq_true (show Lib.trimB s.data.toList 32 = s.data.toList from h2), h3', decide_eq_true h4, h5, decide_eq_true h6, decide_eq_true h7, show s.data.toList.isEmpty = false by rw [List.isEmpty_eq_false_iff]; exact h1]
  rfl

set_option maxRecDepth 100000 in
set_option maxHeartbeats 2000000 in
theorem isStatement_c (s : ByteArray) (hs : s.size ≤ 1000000) (w : World) :
    Calls Tryz.prog 28 #[.string s] w fun e w' => e = .returned (.bool (isStB s.data.toList)) ∧ Below w.heap.size w w' := by
  obtain ⟨d, hd⟩ : ∃ d : ByteArray, d = ⟨(cutP s.data.toList).1.toArray⟩ := ⟨_, rfl⟩
  obtain ⟨r, hr⟩ : ∃ r : ByteArray, r = ⟨(cutP s.data.toList).2.toArray⟩ := ⟨_, rfl⟩
  obtain ⟨t, ht⟩ : ∃ t : ByteArray, t = ⟨(Lib.trimB s.data.toList 32).toArray⟩ := ⟨_, rfl⟩
  obtain ⟨o, ho⟩ : ∃ o : Nat, o = opB s.data.toList 0 := ⟨_, rfl⟩
  obtain ⟨f, hf⟩ : ∃ f : Nat, f = foB s.data.toList 0 59 := ⟨_, rfl⟩
  obtain ⟨g, hg⟩ : ∃ g : Nat, g = foB s.data.toList 0 33 := ⟨_, rfl⟩
  obtain ⟨b, hb⟩ : ∃ b : Bool, b = isStB s.data.toList := ⟨_, rfl⟩
  have Hl := Lib.hid (data_len s)
  have Hd := Lib.hid hd
  have Hr := Lib.hid hr
  have Ht := Lib.hid ht
  have Ho := Lib.hid ho
  have Hf := Lib.hid hf
  have Hg := Lib.hid hg
  have Hb := Lib.hid hb
  rw [← hb]
  clear hd hr ht ho hf hg hb
  go_enter Tryz.func28, Tryz.ntmps28
  go_wp2_with fail
  refine (cutLabel_c s hs _).mono ?_
  rw [← Hd.out, ← Hr.out]
  rintro e w1 ⟨rfl, hB⟩
  go_wp2_with fail
  · have Hh := Lib.hid (show s.toList = [] by assumption)
    go_ret
    exact ⟨by rw [Hb.out, isSt_1 Hh.out]; rfl, hB⟩
  have Hh1 := Lib.hid (show ¬ s.toList = [] by assumption)
  refine (Tryz.strings_Trim_one s 32 (by decide) _ (by omega)).mono ?_
  rw [← Ht.out]
  rintro e w2 ⟨rfl, hw⟩
  have hB2 : Below w.heap.size w w2 := hw.elim (fun h => h ▸ hB) (fun h => h ▸ hB.drew)
  clear hw hB
  go_wp2_with fail
  rotate_left
  · have Hh := Lib.hid (show ¬ d.toList = [] by assumption)
    go_ret
    exact ⟨by rw [Hb.out, isSt_3 Hd.out Hh.out]; rfl, hB2⟩
  · have Hh := Lib.hid (show ¬ t.toList = s.toList by assumption)
    go_ret
    exact ⟨by rw [Hb.out, isSt_2 Ht.out Hh.out]; rfl, hB2⟩
  have Hh2 := Lib.hid (show t.toList = s.toList by assumption)
  have Hh3 := Lib.hid (show d.toList = [] by assumption)
  refine (openBehind_c s hs 0 _).mono ?_
  rw [← Ho.out]
  rintro e w3 ⟨rfl, rfl⟩
  go_wp2_with fail
  rotate_left
  · have Hh := Lib.hid (show ¬ o = 0 by assumption)
    go_ret
    exact ⟨by rw [Hb.out, isSt_4 (by rw [← Ho.out]; exact Hh.out)]; rfl, hB2⟩
  have Hh4 := Lib.hid (show o = 0 by assumption)
  refine (Tryz.strings_HasSuffix s ⟨#[38]⟩ _ (by omega)).mono ?_
  generalize hp : Lib.hasSuffix s.data.toList (ByteArray.data ⟨#[38]⟩).toList = p
  have Hp := Lib.hid (show Lib.hasSuffix s.data.toList [38] = p from hp)
  clear hp
  rintro e w3 ⟨rfl, rfl⟩
  cases p
  rotate_left
  · go_wp2
    go_ret
    exact ⟨by rw [Hb.out, isSt_5 Hp.out]; rfl, hB2⟩
  go_wp2_with fail
  refine (findOutside_c s hs 0 59 _).mono ?_
  rw [← Hf.out]
  rintro e w3 ⟨rfl, rfl⟩
  by_cases h6 : f = s.size
  rotate_left
  · have f6 : ((f : Int) == (s.size : Int)) = false := by simp; omega
    have Hh := Lib.hid h6
    clear h6
    go_wp2
    go_ret
    exact ⟨by rw [Hb.out, isSt_6 (by rw [← Hf.out, Hl.out]; exact Hh.out)]; rfl, hB2⟩
  have f6 : ((f : Int) == (s.size : Int)) = true := by simp; omega
  have Hh6 := Lib.hid h6
  clear h6
  go_wp2_with fail
  refine (findOutside_c s hs 0 33 _).mono ?_
  rw [← Hg.out]
  rintro e w3 ⟨rfl, rfl⟩
  by_cases h7 : g = s.size
  rotate_left
  · have f7 : ((g : Int) == (s.size : Int)) = false := by simp; omega
    have Hh := Lib.hid h7
    clear h7
    go_wp2
    go_ret
    exact ⟨by rw [Hb.out, isSt_7 (by rw [← Hg.out, Hl.out]; exact Hh.out)]; rfl, hB2⟩
  have f7 : ((g : Int) == (s.size : Int)) = true := by simp; omega
  have Hh7 := Lib.hid h7
  clear h7
  go_wp2
  go_ret
  exact ⟨by rw [Hb.out, isSt_ok Ht.out Hd.out Hh1.out Hh2.out Hh3.out (by rw [← Ho.out]; exact Hh4.out) Hp.out (by rw [← Hf.out, Hl.out]; exact Hh6.out) (by rw [← Hg.out, Hl.out]; exact Hh7.out)]; exact ret_b (by rw [List.isEmpty_eq_false_iff.2 Hh1.out]; rfl), hB2⟩
end Go.Proofs.YtdandmbgdndnjaaGreatDoor
