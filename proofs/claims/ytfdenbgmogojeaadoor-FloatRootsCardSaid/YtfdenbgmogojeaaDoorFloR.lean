/- Boxes of package float's sum; how its result is read. -/
import Derived.Test.YtfdenbgmogojeaaDoorFloI
import Derived.Test.YtfdenbgmogojeaaDoorFloQ
namespace Go.Proofs.YtfdenbgmogojeaaDoor
open Go.RowKit

theorem res77 (tm : Array Value) (R : Nat) (a b c d e : Value) (w : World) (hp : tm[4]?.getD undef = .pointer (some ⟨R, 0, none⟩)) (h : Has w R [a, b, c, d, e]) :
    (results Tryd.f97 tm).run Tryd.prog w = .ok (.agg #[a, b, c, d, e]) w := by
  obtain ⟨h0, h1, h2, h3, h4⟩ := h.c5
  simp [results, Tryd.results97, go_sem, hp, h0, h1, h2, h3, h4]
theorem ret_exa {s hi lo e s' hi' lo' e' : Int} {m m' : Bool} (hs : s' = s) (hh : hi' = hi) (hl : lo' = lo) (he : e' = e) (hm : m' = m) : Ending.returned (.agg #[.int .i64 s', .int .u64 hi', .int .u64 lo', .int .i64 e', .bool m']) = .returned (exa s hi lo e m) := by rw [hs, hh, hl, he, hm]

theorem box3 {w w1 : World} {xs ys zs : List Value} {t u v : TypeId} {z : Value}
    (hb : Below (((w.alloc (.cells xs.toArray t)).alloc (.cells ys.toArray u)).alloc (.cells (z :: zs).toArray v)).heap.size (((w.alloc (.cells xs.toArray t)).alloc (.cells ys.toArray u)).alloc (.cells (z :: zs).toArray v)) w1) :
    Has w1 w.heap.size xs ∧ Has w1 (w.heap.size + 1) ys ∧ Has w1 (w.heap.size + 1 + 1) (z :: zs) ∧ Below w.heap.size w w1 ∧ w.heap.size + 1 + 1 < w1.heap.size := by
  have h1 := (((Has.new w xs t).alloc (.cells ys.toArray u)).alloc (.cells (z :: zs).toArray v)).keep hb
  have h2 := ((Has.new (w.alloc (.cells xs.toArray t)) ys u).alloc (.cells (z :: zs).toArray v)).keep hb
  have h3 := (Has.new ((w.alloc (.cells xs.toArray t)).alloc (.cells ys.toArray u)) (z :: zs) v).keep hb
  rw [World.size_alloc] at h2
  rw [World.size_alloc, World.size_alloc] at h3
  exact ⟨h1, h2, h3, bt (by go_grown) hb, h3.lt⟩

end Go.Proofs.YtfdenbgmogojeaaDoor
