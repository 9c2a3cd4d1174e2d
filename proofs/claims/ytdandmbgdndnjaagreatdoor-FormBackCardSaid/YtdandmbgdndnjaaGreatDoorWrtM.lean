/- Mathematics: the program's and the document's tests of a statement's text say the same. -/
import Derived.Test.YtdandmbgdndnjaaGreatDoorSrcS
import Derived.Test.YtdandmbgdndnjaaGreatDoorSrcJ
import Derived.Test.YtdandmbgdndnjaaGreatDoorSrcK
namespace Go.Proofs.YtdandmbgdndnjaaGreatDoor
open Go.RowKit

theorem dw_len {p : UInt8 → Bool} : ∀ (L : List UInt8), (L.dropWhile p).length = L.length → L.dropWhile p = L
  | [], _ => rfl
  | c :: L, h => by
    by_cases hc : p c = true
    · rw [List.dropWhile_cons_of_pos hc] at h
      have := (List.dropWhile_sublist (l := L) p).length_le
      simp at h; omega
    · exact List.dropWhile_cons_of_neg hc
theorem ltr_le (L : List UInt8) : (ltr L).length ≤ L.length := (List.dropWhile_sublist _).length_le
theorem rtr_le (L : List UInt8) : (rtr L).length ≤ L.length := by
  unfold rtr
  have := (List.dropWhile_sublist (l := L.reverse) (fun c => c == 32)).length_le
  simp at this ⊢; omega
theorem rtr_len (L : List UInt8) (h : (rtr L).length = L.length) : rtr L = L := by
  unfold rtr at h ⊢
  have := dw_len (p := fun c => c == 32) L.reverse (by simpa using h)
  rw [this, List.reverse_reverse]
theorem trim_same (L : List UInt8) : (rtr (ltr L) = L) ↔ (Lib.trimB L 32 = L) := by
  have e : Lib.trimB L 32 = ltr (rtr L) := rfl
  rw [e]
  constructor
  · intro h
    have h1 := rtr_le (ltr L); have h2 := ltr_le L
    rw [h] at h1
    have h3 : ltr L = L := dw_len L (by show (ltr L).length = L.length; omega)
    have h4 : rtr L = L := by rw [h3] at h; exact h
    rw [h4, h3]
  · intro h
    have h1 := ltr_le (rtr L); have h2 := rtr_le L
    rw [h] at h1
    have h3 : rtr L = L := rtr_len L (by omega)
    have h4 : ltr L = L := by rw [h3] at h; exact h
    rw [h4, h3]
theorem cD_mem (c : UInt8) : cD c.toNat = dgL.contains c := by
  have h : ∀ c : Fin 256, cD (UInt8.ofNat c.val).toNat = dgL.contains (UInt8.ofNat c.val) := by decide +kernel
  have := h ⟨c.toNat, c.toNat_lt⟩
  simpa using this
theorem dR_drop : ∀ (L : List UInt8), dR L = L.drop (dgN L)
  | [] => rfl
  | c :: L => by
    unfold dR Lib.trimLeftS dgN
    by_cases hc : cD c.toNat = true
    · rw [List.dropWhile_cons_of_pos (by rw [← cD_mem]; exact hc), if_pos hc, Nat.add_comm, List.drop_succ_cons]
      exact dR_drop L
    · rw [List.dropWhile_cons_of_neg (by rw [← cD_mem]; exact hc), if_neg hc, List.drop_zero]
theorem dgN_le : ∀ (L : List UInt8), dgN L ≤ L.length
  | [] => Nat.le_refl _
  | c :: L => by
    unfold dgN; rw [List.length_cons]
    split
    · have := dgN_le L; omega
    · omega
theorem pre32 (L : List UInt8) (n : Nat) (h : n < L.length) : Lib.hasPrefix (L.drop n) [32] = decide (bt L n = 32) := by
  rw [List.drop_eq_getElem_cons h]
  unfold Lib.hasPrefix bt
  rw [List.getD_eq_getElem?_getD, List.getElem?_eq_getElem h]
  simp only [List.isPrefixOf, Option.getD_some, Bool.and_true]
  by_cases hb : L[n] = 32
  · rw [hb]; rfl
  · rw [decide_eq_false (show ¬ L[n].toNat = 32 from fun e => hb (UInt8.toNat_inj.1 e)), beq_eq_false_iff_ne]; exact fun e => hb e.symm
theorem cut_dig (L : List UInt8) : (cutP L).1.isEmpty = (decide (dgN L = 0) || decide (dgN L = L.length) || !decide (bt L (dgN L) = 32)) := by
  have hl := dgN_le L
  have hd : (dR L).length = L.length - dgN L := by rw [dR_drop, List.length_drop]
  unfold cutP
  by_cases h0 : dgN L = 0
  · rw [if_pos (Or.inl (by omega)), decide_eq_true h0]; rfl
  · by_cases h1 : dgN L = L.length
    · rw [if_pos (Or.inr (by rw [dR_drop, h1, List.drop_length]; rfl)), decide_eq_true h1]; simp
    · have hp := pre32 L (dgN L) (by omega)
      rw [← dR_drop] at hp
      rw [decide_eq_false h0, decide_eq_false h1]
      by_cases h2 : bt L (dgN L) = 32
      · rw [decide_eq_true h2] at hp
        rw [if_neg (fun h => h.elim (fun h => by omega) (fun h => by rw [hp] at h; cases h)), decide_eq_true h2]
        have : (L.take (L.length - (dR L).length)).length = dgN L := by rw [List.length_take, hd]; omega
        show (L.take (L.length - (dR L).length)).isEmpty = false
        rw [List.isEmpty_eq_false_iff]
        intro e
        rw [e] at this; simp at this; omega
      · rw [decide_eq_false h2] at hp
        rw [if_pos (Or.inr hp), decide_eq_false h2]; rfl
theorem suf38 (L : List UInt8) (h : L ≠ []) : Lib.hasSuffix L [38] = decide (bt L (L.length - 1) = 38) := by
  have e := List.dropLast_concat_getLast h
  have hl : 0 < L.length := List.length_pos_iff.2 h
  have hb : bt L (L.length - 1) = (L.getLast h).toNat := by
    unfold bt
    rw [List.getD_eq_getElem?_getD, List.getElem?_eq_getElem (by omega), Option.getD_some, List.getLast_eq_getElem]
  rw [hb]
  unfold Lib.hasSuffix List.isSuffixOf
  conv => lhs; rw [← e]
  rw [List.reverse_append]
  simp only [List.reverse_cons, List.reverse_nil, List.nil_append, List.singleton_append, List.isPrefixOf, Bool.and_true]
  by_cases hc : L.getLast h = 38
  · rw [hc]; rfl
  · rw [decide_eq_false (show ¬ (L.getLast h).toNat = 38 from fun e => hc (UInt8.toNat_inj.1 e)), beq_eq_false_iff_ne]; exact fun e => hc e.symm

/-- Whether a text is that of a statement, with its bytes. -/
def isTB (L : List UInt8) : Bool := isStB L && prB L
theorem isT_1 {s : ByteArray} (h : s.toList = []) : isTB s.data.toList = false := by unfold isTB; rw [isSt_1 h]; rfl
theorem isT_2 {s t : ByteArray} (ht : t = ⟨(rtr (ltr s.data.toList)).toArray⟩) (h : ¬ t.toList = s.toList) : isTB s.data.toList = false := by
  unfold isTB
  rw [isSt_2 (t := ⟨(Lib.trimB s.data.toList 32).toArray⟩) rfl (fun e => h (by
    rw [Lib.toList_data, Lib.toList_data] at e ⊢
    rw [ht]
    exact (trim_same s.data.toList).2 e))]
  rfl
theorem isT_3 {L : List UInt8} (h : prB L = false) : isTB L = false := by unfold isTB; rw [h, Bool.and_false]
theorem isT_4 {L : List UInt8} (h : ¬ opB L 0 = 0) : isTB L = false := by unfold isTB; rw [isSt_4 h]; rfl
theorem isT_5 {L : List UInt8} (hn : L ≠ []) (h : bt L (L.length - 1) = 38) : isTB L = false := by
  unfold isTB; rw [isSt_5 (by rw [suf38 L hn, decide_eq_true h])]; rfl
theorem isT_6 {L : List UInt8} (h : foB L 0 59 < L.length) : isTB L = false := by unfold isTB; rw [isSt_6 (by omega)]; rfl
theorem isT_7 {L : List UInt8} (h : foB L 0 33 < L.length) : isTB L = false := by unfold isTB; rw [isSt_7 (by omega)]; rfl
theorem isT_fin {s t : ByteArray} (ht : t = ⟨(rtr (ltr s.data.toList)).toArray⟩) (h1 : ¬ s.toList = []) (h2 : t.toList = s.toList) (h3 : prB s.data.toList = true) (h4 : opB s.data.toList 0 = 0)
    (h5 : ¬ bt s.data.toList (s.data.toList.length - 1) = 38) (h6 : ¬ foB s.data.toList 0 59 < s.data.toList.length) (h7 : ¬ foB s.data.toList 0 33 < s.data.toList.length) :
    isTB s.data.toList = (decide (dgN s.data.toList = 0) || decide (dgN s.data.toList = s.data.toList.length) || !decide (bt s.data.toList (dgN s.data.toList) = 32)) := by
  rw [Lib.toList_data] at h1
  rw [Lib.toList_data, Lib.toList_data, ht] at h2
  have h2' := (trim_same s.data.toList).1 h2
  have l6 := foB_leK s.data.toList 59 0
  have l7 := foB_leK s.data.toList 33 0
  unfold isTB isStB
  rw [h3, decide_eq_true h2', decide_eq_true h4, suf38 _ h1, decide_eq_false h5, decide_eq_true (show foB s.data.toList 0 59 = s.data.toList.length by omega), decide_eq_true (show foB s.data.toList 0 33 = s.data.toList.length by omega),
    show s.data.toList.isEmpty = false by rw [List.isEmpty_eq_false_iff]; exact h1, cut_dig]
  simp
theorem pr_step (s : ByteArray) (k : Nat) (h : k < s.size) : prB (s.data.toList.take (k + 1)) = (prB (s.data.toList.take k) && (decide (32 ≤ s[k].toNat) && decide (s[k].toNat ≤ 126))) := by
  unfold prB
  rw [List.take_add_one, List.getElem?_eq_getElem (by simpa using h), List.all_append]
  simp only [Option.toList_some, List.all_cons, List.all_nil, Bool.and_true]
  rfl
theorem pr_take {L : List UInt8} {k : Nat} (h : prB (L.take k) = false) : prB L = false := by
  unfold prB at h ⊢
  rw [← List.take_append_drop k L, List.all_append, h]
  rfl
end Go.Proofs.YtdandmbgdndnjaaGreatDoor
