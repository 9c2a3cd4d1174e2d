/- Contracts of Quoted, of both sides: whether a byte is within quotes. -/
import Derived.Test.YtdandmbgdndnjaaGreatDoorSrcA
namespace Go.Proofs.YtdandmbgdndnjaaGreatDoor
open Go.RowKit

/-- Whether the byte at a place of a text is within quotes. -/
def quoQ (L : List UInt8) (n : Int) : Bool := decide (0 ≤ n) && (decide (n ≤ L.length) && decide (opB (L.take n.toNat) 0 ≠ 0))

set_option maxRecDepth 100000 in
set_option maxHeartbeats 1000000 in
theorem Quoted_c (s : ByteArray) (hs : s.size ≤ 1000000) (n : Int) (w : World) : Calls Tryz.prog 18 #[.string s, .int .i64 n] w fun e w' => e = .returned (.bool (quoQ s.data.toList n)) ∧ w = w' := by
  have hl : s.data.toList.length = s.size := by simp
  by_cases h0 : 0 ≤ n
  · by_cases h1 : n ≤ s.size
    · obtain ⟨k, rfl⟩ : ∃ k : Nat, n = (k : Int) := ⟨n.toNat, by omega⟩
      have Hx := Lib.hid (show quoQ s.data.toList (k : Int) = decide (opB (s.data.toList.take k) 0 ≠ 0) by unfold quoQ; rw [hl]; simp; intro; omega)
      have Hd := Lib.hid (show (s.extract 0 k).data.toList = s.data.toList.take k by rw [sub_ext]; unfold sub; simp)
      have hsz : (s.extract 0 k).size ≤ 1000000 := by rw [ByteArray.size_extract]; omega
      have Ho := Lib.hid (openBehind_c (s.extract 0 k) hsz 0 w)
      clear hl
      generalize hq : opB (s.data.toList.take k) 0 = q at *
      have Hq := Lib.hid hq
      clear hq hsz
      by_cases hz : q = 0
      · subst hz
        go_enter Tryz.func18, Tryz.ntmps18
        go_wp2_with (go_at_call 33; refine Ho.out.mono ?_; rw [Hd.out, Hq.out]; rintro e w' ⟨rfl, rfl⟩)
        go_ret
        exact ⟨ret_b (by rw [Hx.out]; simp), rfl⟩
      · have hb : ((q : Int) != 0) = true := by simp; omega
        have Hx2 := Lib.hid (show quoQ s.data.toList (k : Int) = true by rw [Hx.out]; simp [hz])
        clear hz
        go_enter Tryz.func18, Tryz.ntmps18
        go_wp2_with (go_at_call 33; refine Ho.out.mono ?_; rw [Hd.out, Hq.out]; rintro e w' ⟨rfl, rfl⟩)
        go_ret
        exact ⟨ret_b (by rw [Hx2.out]), rfl⟩
    · have Hx := Lib.hid (show quoQ s.data.toList n = false by unfold quoQ; rw [hl]; simp; intro; omega)
      have hd : decide (n ≤ (s.size : Int)) = false := by simp; omega
      clear hl
      go_enter Tryz.func18, Tryz.ntmps18
      go_wp2_with fail
      go_ret
      exact ⟨ret_b (by rw [Hx.out]), rfl⟩
  · have Hx := Lib.hid (show quoQ s.data.toList n = false by unfold quoQ; simp; intro; omega)
    have hd : decide (0 ≤ n) = false := by simp; omega
    clear hl
    go_enter Tryz.func18, Tryz.ntmps18
    go_wp2_with fail
    go_ret
    exact ⟨ret_b (by rw [Hx.out]), rfl⟩
end Go.Proofs.YtdandmbgdndnjaaGreatDoor
