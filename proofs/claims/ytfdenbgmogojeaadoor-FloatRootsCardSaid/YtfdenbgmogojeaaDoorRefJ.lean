/- Contract of quadratref01.Down where something is left: the rest of a slice's digits in new memory; and the cells of an owned row. -/
import Derived.Test.YtfdenbgmogojeaaDoorRefI
namespace Go.Proofs.YtfdenbgmogojeaaDoor
open Go.RowKit
set_option maxRecDepth 100000 in
set_option maxHeartbeats 2000000 in
theorem rDown_c (g cap j n : Nat) (xs : List Value) (hn : n < j) (hj : j ≤ 64) (hcap : j ≤ cap) (w : World) (hc : ∀ i v, xs[i]? = some v → w.cell? ⟨g, n + i, none⟩ = some v) (hx : xs.length = j - n) (hu : ∀ v, v ∈ xs → ∃ d, v = .int .u8 d) :
    Calls Tryd.prog 85 #[.slice (some ⟨g, 0, none⟩) j cap, .int .i64 (n : Int)] w fun e w' => ∃ v, e = .returned v ∧ w'.ownsRow w.heap.size 5 1 v (j - n) xs ∧ Below w.heap.size w w' := by
  obtain ⟨i0, hi, hz0, hz1, hz2⟩ := info_parts info5
  go_enter Tryd.func85, Tryd.ntmps85
  have hown : (w.alloc (.cells #[] 5)).ownsRow w.heap.size 5 1 (.slice (some ⟨w.heap.size, 0, none⟩) 0 0) 0 [] := (World.ownsRow_made w #[] 0 (Nat.le_refl _) (by decide) (by simp))
  go_wp2_with (at_builtin; refine wpList_append_own _ rfl _ _ 51 rfl w.heap.size 5 i0 (.int .u8 0) 1 1 Tryd.underlying51 hi hz0 hz1 hz2 rfl (by decide) _ _ _ rfl hown ⟨g, n, none⟩ (j - n) (cap - n) xs rfl (by rw [hx, Nat.mul_one]) ?c1 ?c2 ?c3 ?c4 ?c5 ?_)
  case c1 =>
    intro j' u hj'
    have := hc j' u hj'
    have hlt := World.block_lt_of_cell? w _ this
    rw [Addr.add_lit, ((Below.refl w.heap.size w).alloc (Nat.le_refl _) (.cells #[] 5)).cell (p := ⟨g, n + j', none⟩) hlt]; exact this
  case c2 =>
    intro u hm
    obtain ⟨d, rfl⟩ := hu u hm
    rfl
  case c3 => unfold maxLen; omega
  case c4 => omega
  case c5 => simp
  intro v' w1 hown' hgrow _
  have hb' : Below w.heap.size w w1 := ((Below.refl w.heap.size w).alloc (Nat.le_refl _) _).grown hgrow (by simp) (fun k hk => (hown.lt k hk).1)
  clear hgrow hown
  go_wp2
  go_ret
  exact ⟨v', rfl, hown', hb'⟩

/-- The cells of an owned row that is not empty. -/
theorem own_cells {w : World} {b n : Nat} {e : TypeId} {v : Value} {xs : List Value} (h : w.ownsRow b e 1 v n xs) (h0 : 0 < n) :
    ∃ g cap, v = .slice (some ⟨g, 0, none⟩) n cap ∧ b ≤ g ∧ n ≤ cap ∧ ∀ (i : Nat) (u : Value), xs[i]? = some u → w.cell? ⟨g, i, none⟩ = some u := by
  rcases h.2 with ⟨_, h1⟩ | ⟨g, cap, cur, rfl, hg, hc, hn, _, hs, hx⟩
  · omega
  refine ⟨g, cap, rfl, hg, hn, fun i u hi => ?_⟩
  have hcur : cur[i]? = some u := by
    rw [← hx, List.getElem?_take] at hi
    split at hi
    · simpa using hi
    · cases hi
  simp [World.cell?, hc, hcur]
end Go.Proofs.YtfdenbgmogojeaaDoor
