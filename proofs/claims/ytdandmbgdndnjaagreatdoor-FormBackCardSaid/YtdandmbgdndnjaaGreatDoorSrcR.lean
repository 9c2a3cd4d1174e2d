/- Contract of cutLabel: the digits at a text's front that have a blank behind them, and what follows. -/
import Derived.Test.YtdandmbgdndnjaaGreatDoorSrcQ
namespace Go.Proofs.YtdandmbgdndnjaaGreatDoor
open Go.RowKit

/-- The decimal digits. -/
def dgL : List UInt8 := [48, 49, 50, 51, 52, 53, 54, 55, 56, 57]
/-- A text without the digits at its front. -/
def dR (L : List UInt8) : List UInt8 := Lib.trimLeftS L dgL
theorem dR_len (L : List UInt8) : (dR L).length ≤ L.length := (List.dropWhile_sublist _).length_le
/-- What cutLabel answers. -/
def cutP (L : List UInt8) : List UInt8 × List UInt8 :=
  if (dR L).length = L.length ∨ Lib.hasPrefix (dR L) [32] = false then ([], L) else (L.take (L.length - (dR L).length), Lib.trimLeftB (dR L) 32)

set_option maxRecDepth 100000 in
set_option maxHeartbeats 1000000 in
theorem cutLabel_c (s : ByteArray) (hs : s.size ≤ 1000000) (w : World) :
    Calls Tryz.prog 48 #[.string s] w fun e w' => e = .returned (.tuple #[.string ⟨(cutP s.data.toList).1.toArray⟩, .string ⟨(cutP s.data.toList).2.toArray⟩]) ∧ Below w.heap.size w w' := by
  have H1 := Lib.hid (Tryz.strings_TrimLeft_set s ⟨dgL.toArray⟩ w (by decide) (by decide))
  obtain ⟨r, hr⟩ : ∃ r : ByteArray, r = ⟨(dR s.data.toList).toArray⟩ := ⟨_, rfl⟩
  have hrs : r.size = (dR s.data.toList).length := by rw [hr]; rfl
  have hle := dR_len s.data.toList
  rw [show s.data.toList.length = s.size by simp] at hle
  have hrl : r.size ≤ s.size := by omega
  have Hr := Lib.hid hr
  have Hrs := Lib.hid hrs
  clear hr hrs hle
  by_cases h1 : r.size = s.size
  · go_enter Tryz.func48, Tryz.ntmps48
    go_wp2_with fail
    refine H1.out.mono ?_
    rw [show (Lib.trimLeftS s.data.toList dgL) = dR s.data.toList from rfl, ← Hr.out]
    rintro e w1 ⟨rfl, hB⟩
    go_wp2
    go_ret2
    have e : cutP s.data.toList = ([], s.data.toList) := by unfold cutP; rw [if_pos (Or.inl (by rw [← Hrs.out, h1]; simp))]
    rw [e]
    exact ⟨rfl, hB⟩
  · have h1' : r.size < s.size := by omega
    clear h1
    have f1 : (0 : Int) ≤ (s.size : Int) - (r.size : Int) := by omega
    have f2 : (s.size : Int) - (r.size : Int) ≤ (s.size : Int) := by omega
    have f3 : (0 : Int) < (s.size : Int) - (r.size : Int) := by omega
    have f4 : ¬ (s.extract 0 (s.size - r.size)).toList = [] := by
      rw [Lib.extract_toList]
      intro h
      have := congrArg List.length h
      simp at this
      omega
    have f5 : (s.extract 0 (s.size - r.size)).toList.isEmpty = false := by
      rw [List.isEmpty_eq_false_iff]; exact f4
    have Hd := Lib.hid (show s.extract 0 (s.size - r.size) = ⟨(s.data.toList.take (s.size - r.size)).toArray⟩ by
      rw [← Lib.mk_data (s.extract 0 (s.size - r.size)), Lib.extract_data]; rfl)
    generalize hp : Lib.hasPrefix r.data.toList [32] = p
    have Hp := Lib.hid hp
    clear hp
    cases p
    · have e : cutP s.data.toList = ([], s.data.toList) := by unfold cutP; rw [if_pos (Or.inr (by have := Hp.out; rw [Hr.out] at this; exact this))]
      rw [e]
      have E := Lib.hid e
      clear e
      go_enter Tryz.func48, Tryz.ntmps48
      go_wp2_with fail
      refine H1.out.mono ?_
      rw [show (Lib.trimLeftS s.data.toList dgL) = dR s.data.toList from rfl, ← Hr.out]
      rintro e w1 ⟨rfl, hB⟩
      go_wp2_with fail
      refine (Tryz.strings_HasPrefix r ⟨#[32]⟩ w1).mono ?_
      rw [show Lib.hasPrefix r.data.toList (ByteArray.data ⟨#[32]⟩).toList = false from Hp.out]
      rintro e w2 ⟨rfl, rfl⟩
      go_wp2
      go_ret2
      exact ⟨rfl, hB⟩
    · have e : cutP s.data.toList = (s.data.toList.take (s.size - r.size), Lib.trimLeftB (dR s.data.toList) 32) := by
        have := Hp.out
        rw [Hr.out] at this
        have hn : ¬ ((dR s.data.toList).length = s.data.toList.length ∨ Lib.hasPrefix (dR s.data.toList) [32] = false) := by
          rintro (h | h)
          · rw [← Hrs.out] at h; simp at h; omega
          · rw [show Lib.hasPrefix (dR s.data.toList) [32] = true from this] at h; cases h
        unfold cutP
        rw [if_neg hn, ← Hrs.out]
        simp
      rw [e]
      have E := Lib.hid e
      clear e
      go_enter Tryz.func48, Tryz.ntmps48
      go_wp2_with fail
      refine H1.out.mono ?_
      rw [show (Lib.trimLeftS s.data.toList dgL) = dR s.data.toList from rfl, ← Hr.out]
      rintro e w1 ⟨rfl, hB⟩
      go_wp2_with fail
      refine (Tryz.strings_HasPrefix r ⟨#[32]⟩ w1).mono ?_
      rw [show Lib.hasPrefix r.data.toList (ByteArray.data ⟨#[32]⟩).toList = true from Hp.out]
      rintro e w2 ⟨rfl, rfl⟩
      go_wp2_with fail
      refine (Tryz.strings_TrimLeft_one r 32 (by decide) _).mono ?_
      rintro e w2 ⟨rfl, rfl⟩
      go_wp2
      go_ret2
      exact ⟨by rw [Hd.out, Hr.out]; rfl, hB⟩
end Go.Proofs.YtdandmbgdndnjaaGreatDoor
