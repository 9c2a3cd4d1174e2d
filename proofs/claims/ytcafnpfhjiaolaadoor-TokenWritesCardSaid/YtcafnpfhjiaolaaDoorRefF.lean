/- Contract of the document's answer's quoted: the text in quotes at a place. -/
import Derived.Test.YtcafnpfhjiaolaaDoorRefD
import Derived.Test.YtcafnpfhjiaolaaDoorTokE
namespace Go.Proofs.YtcafnpfhjiaolaaDoor
open Go.RowKit

theorem sub_cut (L : List UInt8) (a b c : Nat) (h1 : a ≤ b) (h2 : b ≤ c) : sub L a b ++ sub L b c = sub L a c := by
  unfold sub
  have e : c - a = (b - a) + (c - b) := by omega
  rw [e, List.take_add, List.drop_drop]
  congr 3
  omega
theorem sub_none (L : List UInt8) (a : Nat) : sub L a a = [] := by unfold sub; simp
theorem sub_byte (s : ByteArray) (j : Nat) (h : j < s.size) : sub s.data.toList j (j + 1) = [(bt s.data.toList j).toUInt8] := by
  have e := bt_get s j h
  rw [e]
  unfold sub
  rw [show j + 1 - j = 1 by omega, List.take_one]
  simp [List.head?_drop]
  exact Array.getElem?_eq_getElem h
theorem quo_other {L : List UInt8} {q j : Nat} {k : List UInt8} (h : j < L.length) (hq : bt L j ≠ q) : quoP L q j k = quoP L q (j + 1) (k ++ sub L j (j + 1)) := by
  have hr : rn (neB q) L j = rn (neB q) L (j + 1) := rn_step h (by unfold neB; simp [hq])
  have hg := rn_ge (neB q) L (j + 1)
  rw [quoP.eq_1, quoP.eq_1 L q (j + 1), hr, ← sub_cut L j (j + 1) _ (by omega) hg]
  simp only [List.append_assoc]
theorem quo_two {L : List UInt8} {q j : Nat} {k : List UInt8} (h : j < L.length) (hq : bt L j = q) (hq2 : bt L (j + 1) = q) : quoP L q j k = quoP L q (j + 2) (k ++ [q.toUInt8]) := by
  have hr : rn (neB q) L j = j := rn_stop fun _ => by unfold neB; simp [hq]
  rw [quoP.eq_1, hr, if_pos h, if_pos hq2, sub_none, List.append_nil]
theorem quo_end {L : List UInt8} {q j : Nat} {k : List UInt8} (h : j < L.length) (hq : bt L j = q) (hq2 : bt L (j + 1) ≠ q) : quoP L q j k = some (k, j + 1) := by
  have hr : rn (neB q) L j = j := rn_stop fun _ => by unfold neB; simp [hq]
  rw [quoP.eq_1, hr, if_pos h, if_neg hq2, sub_none, List.append_nil]
theorem quo_no {L : List UInt8} {q j : Nat} {k : List UInt8} (h : ¬ j < L.length) : quoP L q j k = none := by
  have hr : rn (neB q) L j = j := rn_stop fun h2 => absurd h2 h
  rw [quoP.eq_1, hr, if_neg h]

/-- What quoted answers. -/
def quoV (i : Nat) : Option (List UInt8 × Nat) → Value
  | some r => .tuple #[.string ⟨r.1.toArray⟩, .int .i64 ((r.2 - i : Nat) : Int), .bool true]
  | none => .tuple #[.string ⟨#[]⟩, .int .i64 0, .bool false]
theorem res39 (tm : Array Value) (a : Value) (n : Int) (c : Bool) (w : World) (h4 : tm[4]?.getD undef = a) (h5 : tm[5]?.getD undef = .int .i64 n) (h6 : tm[6]?.getD undef = .bool c) :
    (results Tryd.f39 tm).run Tryd.prog w = .ok (.tuple #[a, .int .i64 n, .bool c]) w := by
  simp [results, Tryd.results39, go_sem, h4, h5, h6]
/-- The relation at the head of quoted's loop. -/
def RQ (s : ByteArray) (q i : Nat) (w : World) (x y : Value) (wr : World) : Prop :=
  ∃ (j : Nat) (k : ByteArray), i + 1 ≤ j ∧ j ≤ s.size ∧ k.size ≤ j ∧ x = .string k ∧ y = .int .i64 (j : Int) ∧ quoP s.data.toList q j k.data.toList = quoP s.data.toList q (i + 1) [] ∧ Below w.heap.size w wr

set_option maxRecDepth 100000 in
set_option maxHeartbeats 2000000 in
theorem quoted_c (s : ByteArray) (i : Nat) (hi : i < s.size) (hs : s.size ≤ 400000) (hq0 : bt s.data.toList i ≠ 0) (w : World) :
    Calls Tryd.prog 39 #[.string s, .int .i64 (i : Int)] w fun e w' => e = .returned (quoV i (quoP s.data.toList (bt s.data.toList i) (i + 1) [])) ∧ Below w.heap.size w w' := by
  have hl : s.data.toList.length = s.size := by simp
  have Hqi := Lib.hid (bt_get s i hi)
  have Hq0 := Lib.hid hq0
  clear hq0
  generalize hq : bt s.data.toList i = q at *
  clear hq
  go_enter Tryd.func39, Tryd.ntmps39
  go_wp2_with fail
  go_loopw [7, 8] (fun x y wr => RQ s q i w x y wr) (fun _ y _ => s.size - (intOf y).toNat)
  case atStart => exact ⟨i + 1, ⟨#[]⟩, by omega, by omega, Nat.zero_le _, rfl, by go_num, rfl, Below.refl _ _⟩
  case round =>
    obtain ⟨j, k, hj1, hj2, hks, rfl, rfl, hqq, hB⟩ := hrel
    by_cases hlt : j < s.size
    · have hw1 : IntKind.i64.wrap ((j : Int) + 1) = j + 1 := IntWalk.i64_in _ (by omega)
      have Hj := Lib.hid (bt_get s j hlt)
      have h1 : (s.extract j (j + 1)).size = 1 := by rw [ByteArray.size_extract]; omega
      have hx : (s.extract j (j + 1)).data.toList = sub s.data.toList j (j + 1) := sub_ext s j (j + 1)
      have Hx := Lib.hid hx
      clear hx
      by_cases hne : bt s.data.toList j = q
      · have hb1 : ((s[j].toNat : Int) != (s[i].toNat : Int)) = false := by rw [← Hj.out, ← Hqi.out, hne]; simp
        by_cases hn2 : bt s.data.toList (j + 1) = q
        · have hin : j + 1 < s.size := in_of_bt (p := fun c => decide (c = q)) (by have := Hq0.out; simp; omega) (by simpa using hn2)
          have hb2 : ((bt s.data.toList (j + 1) : Int) != (s[i].toNat : Int)) = false := by rw [← Hqi.out, hn2]; simp
          have Hst := Lib.hid ((quo_two (by omega) hne hn2).symm.trans hqq)
          have Hk := Lib.hid (show ∀ (o : ByteArray), o = k ++ s.extract j (j + 1) → o.data.toList = k.data.toList ++ [q.toUInt8] from fun o ho => by rw [ho, ByteArray.data_append, Array.toList_append, Hx.out, sub_byte s j hlt, hne])
          clear hqq hne hn2 hl
          go_wp2_with fail
          go_quiet (fail)
          have hB := below_drewN hB nq
          generalize World.drewN wr nq = w1 at *
          go_wp2_with fail
          go_quiet (first | (go_at_call 35; exact Calls.quiet_of_same ((rAt_c s (j + 1) _).mono fun _ _ h => ⟨h.1, h.2.symm⟩)))
          have hB := below_drewN hB nq
          go_wp2
          go_roundw
          case rel => exact ⟨j + 2, _, by omega, by omega, by rw [ByteArray.size_append]; omega, rfl, by go_num, by rw [Hk.out _ rfl]; exact Hst.out, hB⟩
          case measure => simp [intOf]; omega
        · have hb2 : ((bt s.data.toList (j + 1) : Int) != (s[i].toNat : Int)) = true := by rw [← Hqi.out]; simp; omega
          have Hst := Lib.hid (hqq.symm.trans (quo_end (by omega) hne hn2))
          clear hqq hne hn2 hl
          go_wp2_with fail
          go_quiet (fail)
          have hB := below_drewN hB nq
          generalize World.drewN wr nq = w1 at *
          go_wp2_with fail
          go_quiet (first | (go_at_call 35; exact Calls.quiet_of_same ((rAt_c s (j + 1) _).mono fun _ _ h => ⟨h.1, h.2.symm⟩)))
          have hB := below_drewN hB nq
          go_wp2
          rw [Hst.out]
          exact bodyPost_ret (v := quoV i (some (k.data.toList, j + 1))) (res39 _ _ _ _ _ rfl (congrArg (Value.int .i64) (show (j : Int) + 1 - i = ((j + 1 - i : Nat) : Int) by omega)) rfl) rfl ⟨rfl, hB⟩
      · have hb1 : ((s[j].toNat : Int) != (s[i].toNat : Int)) = true := by rw [← Hj.out, ← Hqi.out]; simp; omega
        have Hst := Lib.hid ((quo_other (by omega) hne).symm.trans hqq)
        have Hk := Lib.hid (show ∀ (o : ByteArray), o = k ++ s.extract j (j + 1) → o.data.toList = k.data.toList ++ sub s.data.toList j (j + 1) from fun o ho => by rw [ho, ByteArray.data_append, Array.toList_append, Hx.out])
        clear hqq hne hl
        go_wp2_with fail
        go_quiet (fail)
        have hB := below_drewN hB nq
        go_wp2
        go_roundw
        case rel => exact ⟨j + 1, _, by omega, by omega, by rw [ByteArray.size_append]; omega, rfl, by go_num, by rw [Hk.out _ rfl]; exact Hst.out, hB⟩
        case measure => simp [intOf]; omega
    · have Hst := Lib.hid (hqq.symm.trans (quo_no (by omega)))
      clear hqq hl
      go_wp2
      rw [Hst.out]
      exact bodyPost_ret (v := quoV i none) (res39 _ _ _ _ _ rfl rfl rfl) rfl ⟨rfl, hB⟩
end Go.Proofs.YtcafnpfhjiaolaaDoor
