/- What a box in memory holds, and that it holds it behind calls, allocations and stores elsewhere: plain lemmas on worlds. -/
import Derived.Test.YtfdenbgmogojeaaDoorFloD
namespace Go.Proofs.YtfdenbgmogojeaaDoor
open Go.RowKit

/-- Block n of the world holds these cells, and none of them is frozen. -/
def Has (w : World) (n : Nat) (xs : List Value) : Prop := ∀ i v, xs[i]? = some v → w.cell? ⟨n, i, none⟩ = some v ∧ w.frozen? ⟨n, i, none⟩ = false

theorem Has.lt {w : World} {n : Nat} {x : Value} {xs : List Value} (h : Has w n (x :: xs)) : n < w.heap.size :=
  World.block_lt_of_cell? w _ (h 0 x rfl).1
theorem Has.keep {wp w' : World} {n : Nat} {xs : List Value} (h : Has wp n xs) (hb : Below wp.heap.size wp w') : Has w' n xs := fun i v hv => by
  obtain ⟨h1, h2⟩ := h i v hv
  have hn := World.block_lt_of_cell? wp _ h1
  exact ⟨by rw [hb.cell (p := ⟨n, i, none⟩) hn]; exact h1, by rw [hb.frozen (p := ⟨n, i, none⟩) hn]; exact h2⟩
theorem Has.alloc {wp : World} {n : Nat} {xs : List Value} (h : Has wp n xs) (o : Obj) : Has (wp.alloc o) n xs := fun i v hv => by
  obtain ⟨h1, h2⟩ := h i v hv
  have hn := World.block_lt_of_cell? wp _ h1
  exact ⟨by rw [World.cell?_alloc_past o n i hn]; exact h1, by rw [World.frozen?_alloc_past o n i hn]; exact h2⟩
theorem Has.drew {wp : World} {n : Nat} {xs : List Value} (h : Has wp n xs) : Has wp.drew n xs := h
theorem Has.new (wp : World) (xs : List Value) (t : TypeId) : Has (wp.alloc (.cells xs.toArray t)) wp.heap.size xs := fun i v hv => by
  exact ⟨by rw [World.cell?_alloc_at _ _ _ _ rfl]; simpa using hv, by rw [World.frozen?_alloc_at _ _ _ _ rfl]⟩
theorem Has.far {wp : World} {n m i : Nat} {xs : List Value} {v : Value} (h : Has wp n xs) (hne : m ≠ n) : Has (wp.setCell ⟨m, i, none⟩ v) n xs := fun j u hu => by
  obtain ⟨h1, h2⟩ := h j u hu
  exact ⟨(World.cell?_setCell_other wp ⟨m, i, none⟩ ⟨n, j, none⟩ v (by intro e; cases e; exact hne rfl)).trans h1, by rw [World.frozen?_setCell]; exact h2⟩
theorem Has.set {wp : World} {n i : Nat} {xs : List Value} {v : Value} (h : Has wp n xs) : Has (wp.setCell ⟨n, i, none⟩ v) n (xs.set i v) := fun j u hu => by
  by_cases e : i = j
  · subst e
    rw [List.getElem?_set_self'] at hu
    cases hx : xs[i]? with
    | none => rw [hx] at hu; cases hu
    | some y =>
      rw [hx] at hu; simp at hu; subst hu
      obtain ⟨h1, h2⟩ := h i y hx
      exact ⟨World.cell?_setCell_same wp _ _ h1, by rw [World.frozen?_setCell]; exact h2⟩
  · rw [List.getElem?_set_ne e] at hu
    obtain ⟨h1, h2⟩ := h j u hu
    exact ⟨(World.cell?_setCell_other wp ⟨n, i, none⟩ ⟨n, j, none⟩ v (by intro e'; cases e'; exact e rfl)).trans h1, by rw [World.frozen?_setCell]; exact h2⟩
theorem Has.c3 {w : World} {n : Nat} {a b c : Value} (h : Has w n [a, b, c]) : w.cell? ⟨n, 0, none⟩ = some a ∧ w.cell? ⟨n, 1, none⟩ = some b ∧ w.cell? ⟨n, 2, none⟩ = some c :=
  ⟨(h 0 a rfl).1, (h 1 b rfl).1, (h 2 c rfl).1⟩
theorem Has.c4 {w : World} {n : Nat} {a b c d : Value} (h : Has w n [a, b, c, d]) : w.cell? ⟨n, 0, none⟩ = some a ∧ w.cell? ⟨n, 1, none⟩ = some b ∧ w.cell? ⟨n, 2, none⟩ = some c ∧ w.cell? ⟨n, 3, none⟩ = some d :=
  ⟨(h 0 a rfl).1, (h 1 b rfl).1, (h 2 c rfl).1, (h 3 d rfl).1⟩
theorem Has.c5 {w : World} {n : Nat} {a b c d e : Value} (h : Has w n [a, b, c, d, e]) : w.cell? ⟨n, 0, none⟩ = some a ∧ w.cell? ⟨n, 1, none⟩ = some b ∧ w.cell? ⟨n, 2, none⟩ = some c ∧ w.cell? ⟨n, 3, none⟩ = some d ∧ w.cell? ⟨n, 4, none⟩ = some e :=
  ⟨(h 0 a rfl).1, (h 1 b rfl).1, (h 2 c rfl).1, (h 3 d rfl).1, (h 4 e rfl).1⟩
theorem Has.f4 {w : World} {n : Nat} {a b c d : Value} (h : Has w n [a, b, c, d]) : w.frozen? ⟨n, 0, none⟩ = false ∧ w.frozen? ⟨n, 1, none⟩ = false ∧ w.frozen? ⟨n, 2, none⟩ = false ∧ w.frozen? ⟨n, 3, none⟩ = false :=
  ⟨(h 0 a rfl).2, (h 1 b rfl).2, (h 2 c rfl).2, (h 3 d rfl).2⟩
theorem Has.f5 {w : World} {n : Nat} {a b c d e : Value} (h : Has w n [a, b, c, d, e]) : w.frozen? ⟨n, 0, none⟩ = false ∧ w.frozen? ⟨n, 1, none⟩ = false ∧ w.frozen? ⟨n, 2, none⟩ = false ∧ w.frozen? ⟨n, 3, none⟩ = false ∧ w.frozen? ⟨n, 4, none⟩ = false :=
  ⟨(h 0 a rfl).2, (h 1 b rfl).2, (h 2 c rfl).2, (h 3 d rfl).2, (h 4 e rfl).2⟩
theorem _root_.Go.RowKit.Below.st {B : Nat} {a w : World} {b i : Nat} {u : Value} (h : Below B a w) (hb : B ≤ b) : Below B a (w.setCell ⟨b, i, none⟩ u) := h.setCell hb u
theorem Has.new2 (w : World) (o1 o2 : Obj) (xs : List Value) (t : TypeId) : Has (((w.alloc o1).alloc o2).alloc (.cells xs.toArray t)).drew (w.heap.size + 2) xs := by
  have h := (Has.new ((w.alloc o1).alloc o2) xs t).drew
  rw [World.size_alloc, World.size_alloc] at h
  exact h
end Go.Proofs.YtfdenbgmogojeaaDoor
