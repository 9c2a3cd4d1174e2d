/- Contract of a draft's add: the text grows, and the quote that is open behind it. -/
import Derived.Test.YtdandmbgdndnjaaGreatDoorSrcO
namespace Go.Proofs.YtdandmbgdndnjaaGreatDoor
open Go.RowKit

set_option maxRecDepth 100000 in
set_option maxHeartbeats 1000000 in
theorem add_c (db : Nat) (x y : Value) (t s : ByteArray) (o : Nat) (w : World) (h : Has w db [x, y, .string t, .int .u8 (o : Int)]) (hs : s.size ≤ 1000000) (ht : t.size ≤ 1000000) :
    Calls Tryz.prog 71 #[.pointer (some ⟨db, 0, none⟩), .string s] w fun e w' => e = .returned (.tuple #[]) ∧ Has w' db [x, y, .string (t ++ s), .int .u8 (opB s.data.toList o : Int)] ∧ KB w w' (fun k => k = db) := by
  obtain ⟨hc0, hc1, hc2, hc3⟩ := h.c4
  obtain ⟨hf0, hf1, hf2, hf3⟩ := h.f4
  have H := Lib.hid h
  clear h
  go_enter Tryz.func71, Tryz.ntmps71
  go_wp2_with fail
  refine (openBehind_c s hs o _).mono ?_
  rintro e w1 ⟨rfl, rfl⟩
  go_wp2
  go_end0
  refine ⟨rfl, ?_, (KB.set (S := fun k => k = db) _ rfl).trans (KB.set _ rfl)⟩
  exact (H.out.set (i := 2)).set (i := 3)
end Go.Proofs.YtdandmbgdndnjaaGreatDoor
