/- Contract of Quoted, of the document's side. -/
import Derived.Test.YtdandmbgdndnjaaGreatDoorSrcC
namespace Go.Proofs.YtdandmbgdndnjaaGreatDoor
open Go.RowKit

theorem own_at {w : World} {b : Nat} {v : Value} {n : Nat} {xs : List Value} (h : w.ownsRow b 5 1 v n xs) (h0 : 0 < n) :
    ∃ g cap, v = .slice (some ⟨g, 0, none⟩) n cap ∧ ∀ j u, xs[j]? = some u → w.cell? ⟨g, j, none⟩ = some u := by
  rcases h.2 with ⟨_, h1⟩ | ⟨g, cap, cur, rfl, hg, hc, hn, hm, hs, hx⟩
  · omega
  · refine ⟨g, cap, rfl, fun j u hu => ?_⟩
    have := h.cells (g := g) rfl j u hu
    rw [Addr.add_lit, Nat.zero_add] at this
    exact this

set_option maxRecDepth 100000 in
set_option maxHeartbeats 1000000 in
theorem rQuoted_c (s : ByteArray) (hs : s.size ≤ 1000000) (n : Int) (w : World) : Calls Tryz.prog 19 #[.string s, .int .i64 n] w fun e w' => e = .returned (.bool (quoQ s.data.toList n)) ∧ Below w.heap.size w w' := by
  have hl : s.data.toList.length = s.size := by simp
  by_cases h0 : 0 ≤ n
  · by_cases h1 : n ≤ s.size
    · obtain ⟨k, rfl⟩ : ∃ k : Nat, n = (k : Int) := ⟨n.toNat, by omega⟩
      have Hx := Lib.hid (show quoQ s.data.toList (k : Int) = ((opB (s.data.toList.take k) 0 : Int) != 0) by
        unfold quoQ; rw [hl, Bool.eq_iff_iff]; simp; omega)
      have Ho := Lib.hid (marks_c s hs 0 (by omega) w)
      have Hat := Lib.hid (mk_at s.data.toList 0 (n := s.size) (j := k) (by omega))
      clear hl
      go_enter Tryz.func19, Tryz.ntmps19
      go_wp2_with fail
      refine Ho.out.mono ?_
      rintro e w' ⟨⟨v, rfl, hown⟩, hB⟩
      obtain ⟨g, cap, rfl, hc⟩ := own_at hown (by omega)
      have ca := hc _ _ Hat.out
      clear hc hown
      go_wp2
      go_ret
      exact ⟨ret_b (by rw [Hx.out]), hB⟩
    · have Hx := Lib.hid (show quoQ s.data.toList n = false by unfold quoQ; rw [hl]; simp; intro; omega)
      clear hl
      go_enter Tryz.func19, Tryz.ntmps19
      go_wp2
      go_ret
      exact ⟨ret_b (by rw [Hx.out]), Below.refl _ _⟩
  · have Hx := Lib.hid (show quoQ s.data.toList n = false by unfold quoQ; simp; intro; omega)
    clear hl
    go_enter Tryz.func19, Tryz.ntmps19
    go_wp2
    go_ret
    exact ⟨ret_b (by rw [Hx.out]), Below.refl _ _⟩
end Go.Proofs.YtdandmbgdndnjaaGreatDoor
