/- Small lemmas for package float's two. -/
import Derived.Test.YtfdenbgmogojeaaDoorFloU
namespace Go.Proofs.YtfdenbgmogojeaaDoor
open Go.RowKit

set_option maxHeartbeats 400000 in
theorem isMode_c (m : Int) (h : Mode m) (w : World) : Calls Tryd.prog 69 #[.int .i64 m] w fun e w' => e = .returned (.bool true) ∧ w = w' := by
  rcases h with rfl | rfl | rfl | rfl
  all_goals
    go_enter Tryd.func69, Tryd.ntmps69
    go_wp2
    go_ret
    exact ⟨rfl, rfl⟩

theorem keepH {w w' : World} {P : Nat} {a b c : Value} (hB : Below w.heap.size w w') (hL : Has w' P [a, b, c]) :
    Below w.heap.size w w' ∧ w'.cell? ⟨P, 0, none⟩ = some a ∧ w'.cell? ⟨P, 1, none⟩ = some b ∧ w'.cell? ⟨P, 2, none⟩ = some c := ⟨hB, hL.c3⟩

theorem _root_.Go.RowKit.Below.al {a w : World} (h : Below a.heap.size a w) (o : Obj) : Below a.heap.size a (w.alloc o) := h.alloc h.size o
abbrev Zs : List Value := [.int .i64 0, .int .i64 0, .int .u64 0, .int .i64 0]
theorem nz1 {wp w' : World} {z : Value} {zs : List Value} {t : TypeId} (hb : Below (wp.alloc (.cells (z :: zs).toArray t)).heap.size (wp.alloc (.cells (z :: zs).toArray t)) w') : Has w' wp.heap.size (z :: zs) := (Has.new wp (z :: zs) t).keep hb
theorem nz1d {wp w' : World} {z : Value} {zs : List Value} {t : TypeId} (hb : Below (wp.alloc (.cells (z :: zs).toArray t)).drew.heap.size (wp.alloc (.cells (z :: zs).toArray t)).drew w') : Has w' wp.heap.size (z :: zs) := (Has.new wp (z :: zs) t).drew.keep hb
theorem nz2 {wp w' : World} {z y : Value} {zs ys : List Value} {t u : TypeId} (hb : Below ((wp.alloc (.cells (z :: zs).toArray t)).alloc (.cells (y :: ys).toArray u)).heap.size ((wp.alloc (.cells (z :: zs).toArray t)).alloc (.cells (y :: ys).toArray u)) w') : Has w' wp.heap.size (z :: zs) ∧ Has w' (wp.heap.size + 1) (y :: ys) := by
  have h := (Has.new (wp.alloc (.cells (z :: zs).toArray t)) (y :: ys) u).keep hb
  rw [World.size_alloc] at h
  exact ⟨((Has.new wp (z :: zs) t).alloc _).keep hb, h⟩
theorem nz2d {wp w' : World} {z y : Value} {zs ys : List Value} {t u : TypeId} (hb : Below ((wp.alloc (.cells (z :: zs).toArray t)).alloc (.cells (y :: ys).toArray u)).drew.heap.size ((wp.alloc (.cells (z :: zs).toArray t)).alloc (.cells (y :: ys).toArray u)).drew w') : Has w' wp.heap.size (z :: zs) ∧ Has w' (wp.heap.size + 1) (y :: ys) := by
  have h := (Has.new (wp.alloc (.cells (z :: zs).toArray t)) (y :: ys) u).drew.keep hb
  rw [World.size_alloc] at h
  exact ⟨((Has.new wp (z :: zs) t).alloc _).drew.keep hb, h⟩
theorem Has.new1 (w : World) (o : Obj) (xs : List Value) (t : TypeId) : Has ((w.alloc o).alloc (.cells xs.toArray t)) (w.heap.size + 1) xs := by
  have h := Has.new (w.alloc o) xs t
  rw [World.size_alloc] at h
  exact h
theorem Has.new4 (w : World) (m a b c d : Nat) (x y z u : Value) (xs : List Value) (t : TypeId) : Has (((((w.setCell ⟨m, a, none⟩ x).setCell ⟨m, b, none⟩ y).setCell ⟨m, c, none⟩ z).setCell ⟨m, d, none⟩ u).alloc (.cells xs.toArray t)) w.heap.size xs := by
  have h := Has.new ((((w.setCell ⟨m, a, none⟩ x).setCell ⟨m, b, none⟩ y).setCell ⟨m, c, none⟩ z).setCell ⟨m, d, none⟩ u) xs t
  rw [World.size_setCell, World.size_setCell, World.size_setCell, World.size_setCell] at h
  exact h
theorem Has.set4 {w : World} {n : Nat} {p q r s a b c d : Value} (h : Has w n [p, q, r, s]) : Has ((((w.setCell ⟨n, 0, none⟩ a).setCell ⟨n, 1, none⟩ b).setCell ⟨n, 2, none⟩ c).setCell ⟨n, 3, none⟩ d) n [a, b, c, d] := (((h.set).set).set).set

end Go.Proofs.YtfdenbgmogojeaaDoor
