/- Contracts of package token's written and Valid: how a token stands in a text, and whether it is one that Scan gives. -/
import Derived.Test.YtcafnpfhjiaolaaDoorWrtA
import Derived.Test.YtcafnpfhjiaolaaDoorShelfB
namespace Go.Proofs.YtcafnpfhjiaolaaDoor
open Go.RowKit

/-- The cell of the greatest length that the library's counting reads. -/
def MX (w : World) : Prop := ∃ m : Int, w.cell? ⟨2, 0, none⟩ = some (.int .i64 m)
theorem MX.keep {w w' : World} (h : MX w) (hb : Below w.heap.size w w') : MX w' := by
  obtain ⟨m, h⟩ := h
  exact ⟨m, ck hb h⟩
theorem wr_text (x : List UInt8) : wr (kText, x) = 39 :: (dbl x ++ [39]) := by unfold wr; rw [if_pos rfl]
theorem wr_rest {k : ByteArray} (h : k ≠ kText) (x : List UInt8) : wr (k, x) = x := by unfold wr; rw [if_neg h]
theorem wr_len (t : Tok) : (wr t).length ≤ 2 * t.2.length + 2 := by
  unfold wr
  split
  · have := dbl_len t.2
    simp; omega
  · omega

theorem quoted_str (l : List UInt8) : (⟨#[39]⟩ : ByteArray) ++ ⟨l.toArray⟩ ++ ⟨#[39]⟩ = ⟨(39 :: (l ++ [39])).toArray⟩ := by
  apply bytes_inj'
  simp [Lib.toList_data, ByteArray.data_append]
set_option maxRecDepth 100000 in
set_option maxHeartbeats 2000000 in
theorem written_c (k x : ByteArray) (hx : x.size ≤ 400000) (w : World) (hm : MX w) :
    Calls Tryd.prog 23 #[.agg #[.string k, .string x]] w fun e w' => e = .returned (.string ⟨(wr (k, x.data.toList)).toArray⟩) ∧ Below w.heap.size w w' := by
  have hR := Has.new w [.string k, .string x] 30
  have hB : Below w.heap.size w (w.alloc (.cells #[.string k, .string x] 30)) := (Below.refl _ _).alloc (Nat.le_refl _) _
  obtain ⟨m, hm1⟩ := hm.keep hB
  obtain ⟨hr0, hr1⟩ := hR.c2
  by_cases hk : k = kText
  · subst hk
    have Hw := Lib.hid (wr_text x.data.toList)
    have hc : Lib.countB x ⟨#[39]⟩ ≤ x.size := by
      have h1 : Lib.countB x ⟨#[39]⟩ = Lib.count x.data.toList [39] := rfl
      rw [h1, count_q]
      have := List.count_le_length (a := (39 : UInt8)) (l := x.data.toList)
      simpa using this
    have Hrep := Lib.hid (Tryd.strings_ReplaceAll x ⟨#[39]⟩ ⟨#[39, 39]⟩ m _ (by omega) hm1 (by decide) (by
      have : (⟨#[39, 39]⟩ : ByteArray).size = 2 := rfl
      rw [this]; omega))
    have hd := dbl_len x.data.toList
    have Hq := Lib.hid (show (⟨(Lib.replaceAll x.data.toList (⟨#[39]⟩ : ByteArray).data.toList (⟨#[39, 39]⟩ : ByteArray).data.toList).toArray⟩ : ByteArray) = ⟨(dbl x.data.toList).toArray⟩ by
      rw [show (⟨#[39]⟩ : ByteArray).data.toList = [39] from rfl, show (⟨#[39, 39]⟩ : ByteArray).data.toList = [39, 39] from rfl, replace_q])
    obtain ⟨o, ho⟩ : ∃ o : ByteArray, o = ⟨(dbl x.data.toList).toArray⟩ := ⟨_, rfl⟩
    have hos : o.size ≤ 2 * x.size := by
      have : o.size = (dbl x.data.toList).length := by rw [ho]; rfl
      simp only [Array.length_toList, ByteArray.size_data] at hd
      omega
    have Ho := Lib.hid ho
    clear hd hc ho hm hm1
    go_enter Tryd.func23, Tryd.ntmps23
    go_wp2_with fail
    refine Hrep.out.mono ?_
    rw [Hq.out, ← Ho.out]
    rintro e w' ⟨rfl, hb⟩
    go_wp2
    go_ret
    refine ⟨?_, bt_ hB hb⟩
    rw [Hw.out, Ho.out]
    exact congrArg (fun b => Ending.returned (Value.string b)) (quoted_str _)
  · have hkn := kind_no hk
    have Hw := Lib.hid (wr_rest hk x.data.toList)
    go_enter Tryd.func23, Tryd.ntmps23
    go_wp2
    go_ret
    exact ⟨by rw [Hw.out]; rfl, hB⟩

set_option maxRecDepth 100000 in
set_option maxHeartbeats 2000000 in
theorem Valid_c (k x : ByteArray) (hx : x.size ≤ 200000) (w : World) (ht : TB w) (hm : MX w) :
    Calls Tryd.prog 22 #[.agg #[.string k, .string x]] w fun e w' => e = .returned (.bool (vP (k, x.data.toList))) ∧ Below w.heap.size w w' := by
  have hR := Has.new w [.string k, .string x] 30
  have hB : Below w.heap.size w (w.alloc (.cells #[.string k, .string x] 30)) := (Below.refl _ _).alloc (Nat.le_refl _) _
  obtain ⟨hr0, hr1⟩ := hR.c2
  have Ht := Lib.hid (ht.keep hB); have Hm := Lib.hid (hm.keep hB)
  have hwl := wr_len (k, x.data.toList)
  have hiff := valid_iff (k, x.data.toList)
  rcases hA : scanP (wr (k, x.data.toList)) with ⟨l, a, c⟩
  rw [hA] at hiff
  have H1 := Lib.hid hA; have Hiff := Lib.hid hiff
  clear hA hiff ht hm
  simp only [Array.length_toList, ByteArray.size_data] at hwl
  obtain ⟨o, ho⟩ : ∃ o : ByteArray, o = ⟨(wr (k, x.data.toList)).toArray⟩ := ⟨_, rfl⟩
  have hos : o.size ≤ 1000000 := by
    have : o.size = (wr (k, x.data.toList)).length := by rw [ho]; rfl
    omega
  have Hod := Lib.hid (show wr (k, x.data.toList) = o.data.toList by rw [ho])
  have Ho := Lib.hid ho
  clear ho hwl
  go_enter Tryd.func22, Tryd.ntmps22
  go_wp2_with fail
  refine (written_c k x (by omega) _ Hm.out).mono ?_
  rw [← Ho.out]
  rintro e w1 ⟨rfl, hb1⟩
  have hR := hR.keep hb1
  have hB := bt_ hB hb1
  have Ht := Lib.hid (Ht.out.keep hb1)
  clear hb1
  go_wp2_with fail
  refine (Scan_c o hos _ Ht.out).mono ?_
  intro e w2 hp
  rw [← Hod.out] at hp
  obtain ⟨v, rfl, hown, hB2⟩ := scan_as H1.out hp
  have hR := hR.keep hB2
  have hB := bt_ hB hB2
  obtain ⟨hr0, hr1⟩ := hR.c2
  have hr := RT.of_own hown
  clear hp hown hB2
  have hr2 : RT (w2.alloc (.cells #[.string k, .string x] 30)) (.slice (some ⟨w2.heap.size, 0, none⟩) 1 1) [(k, x.data.toList)] := by
    refine ⟨_, 1, rfl, by simp, fun _ => ⟨_, 0, rfl, fun j u hu => ?_⟩⟩
    have h := Has.new w2 [.string k, .string x] 30
    rw [Nat.zero_add]
    exact (h j u hu).1
  have hr1' := hr.keep ((Below.refl _ _).alloc (Nat.le_refl _) (.cells #[.string k, .string x] 30))
  clear hR
  go_wp2_with fail
  refine (Same_c _ _ _ _ _ hr1' hr2).mono ?_
  rintro e w6 ⟨rfl, nn, rfl⟩
  go_wp2
  go_ret
  exact ⟨ret_b Hiff.out, below_dn (hB.alloc hB.size _) nn⟩
end Go.Proofs.YtcafnpfhjiaolaaDoor
