/- What a box in memory holds, and that it holds it behind calls, allocations and stores elsewhere; the two laid tables of package token; plain lemmas on worlds. -/
import Derived.Test.YtcafnpfhjiaolaaDoorRows
import Derived.Test.YtcafnpfhjiaolaaDoorTokM
import Derived.Test.YtcafnpfhjiaolaaDoorShelfA
import Derived.WalkKit
import Derived.WalkSpells
import Derived.WalkLawsBesides
import Derived.Handy
import Derived.Lib.Hide
import Derived.Laws.Rows
import Derived.Laws.AppendOwn
namespace Go.Proofs.YtcafnpfhjiaolaaDoor
open Go.RowKit

/-- A cell that was there is there still. -/
theorem ck {wp w' : World} {p : Addr} {v : Value} (hb : Below wp.heap.size wp w') (h : wp.cell? p = some v) : w'.cell? p = some v := by
  rw [hb.cell (World.block_lt_of_cell? wp p h)]; exact h
theorem bt_ {w wp w' : World} (h : Below w.heap.size w wp) (hb : Below wp.heap.size wp w') : Below w.heap.size w w' := h.trans (hb.mono h.size)
theorem _root_.Go.RowKit.Below.st {B : Nat} {a w : World} {b i : Nat} {u : Value} (h : Below B a w) (hb : B ≤ b) : Below B a (w.setCell ⟨b, i, none⟩ u) := h.setCell hb u

/-- Block n of the world holds these cells, and none of them is frozen. -/
def Has (w : World) (n : Nat) (xs : List Value) : Prop := ∀ i v, xs[i]? = some v → w.cell? ⟨n, i, none⟩ = some v ∧ w.frozen? ⟨n, i, none⟩ = false

theorem Has.lt {w : World} {n : Nat} {x : Value} {xs : List Value} (h : Has w n (x :: xs)) : n < w.heap.size :=
  World.block_lt_of_cell? w _ (h 0 x rfl).1
theorem Has.keep {wp w' : World} {n : Nat} {xs : List Value} (h : Has wp n xs) (hb : Below wp.heap.size wp w') : Has w' n xs := fun i v hv => by
  obtain ⟨h1, h2⟩ := h i v hv
  have hn := World.block_lt_of_cell? wp _ h1
  exact ⟨by rw [hb.cell (p := ⟨n, i, none⟩) hn]; exact h1, by rw [hb.frozen (p := ⟨n, i, none⟩) hn]; exact h2⟩
theorem Has.alloc {wp : World} {n : Nat} {xs : List Value} (h : Has wp n xs) (o : Obj) : Has (wp.alloc o) n xs := fun i v hv => by
  obtain ⟨h1, h2⟩ := h i v hv
  have hn := World.block_lt_of_cell? wp _ h1
  exact ⟨by rw [World.cell?_alloc_past o n i hn]; exact h1, by rw [World.frozen?_alloc_past o n i hn]; exact h2⟩
theorem Has.drew {wp : World} {n : Nat} {xs : List Value} (h : Has wp n xs) : Has wp.drew n xs := h
theorem Has.new (wp : World) (xs : List Value) (t : TypeId) : Has (wp.alloc (.cells xs.toArray t)) wp.heap.size xs := fun i v hv => by
  exact ⟨by rw [World.cell?_alloc_at _ _ _ _ rfl]; simpa using hv, by rw [World.frozen?_alloc_at _ _ _ _ rfl]⟩
theorem Has.far {wp : World} {n m i : Nat} {xs : List Value} {v : Value} (h : Has wp n xs) (hne : m ≠ n) : Has (wp.setCell ⟨m, i, none⟩ v) n xs := fun j u hu => by
  obtain ⟨h1, h2⟩ := h j u hu
  exact ⟨(World.cell?_setCell_other wp ⟨m, i, none⟩ ⟨n, j, none⟩ v (by intro e; cases e; exact hne rfl)).trans h1, by rw [World.frozen?_setCell]; exact h2⟩
theorem Has.set {wp : World} {n i : Nat} {xs : List Value} {v : Value} (h : Has wp n xs) : Has (wp.setCell ⟨n, i, none⟩ v) n (xs.set i v) := fun j u hu => by
  by_cases e : i = j
  · subst e
    rw [List.getElem?_set_self'] at hu
    cases hx : xs[i]? with
    | none => rw [hx] at hu; cases hu
    | some y =>
      rw [hx] at hu; simp at hu; subst hu
      obtain ⟨h1, h2⟩ := h i y hx
      exact ⟨World.cell?_setCell_same wp _ _ h1, by rw [World.frozen?_setCell]; exact h2⟩
  · rw [List.getElem?_set_ne e] at hu
    obtain ⟨h1, h2⟩ := h j u hu
    exact ⟨(World.cell?_setCell_other wp ⟨n, i, none⟩ ⟨n, j, none⟩ v (by intro e'; cases e'; exact e rfl)).trans h1, by rw [World.frozen?_setCell]; exact h2⟩
theorem Has.drewN {w : World} {n : Nat} {xs : List Value} (h : Has w n xs) (k : Nat) : Has (w.drewN k) n xs := h
theorem Has.c1 {w : World} {n : Nat} {a : Value} (h : Has w n [a]) : w.cell? ⟨n, 0, none⟩ = some a := (h 0 a rfl).1
theorem Has.f1 {w : World} {n : Nat} {a : Value} (h : Has w n [a]) : w.frozen? ⟨n, 0, none⟩ = false := (h 0 a rfl).2
theorem Has.c2 {w : World} {n : Nat} {a b : Value} (h : Has w n [a, b]) : w.cell? ⟨n, 0, none⟩ = some a ∧ w.cell? ⟨n, 1, none⟩ = some b := ⟨(h 0 a rfl).1, (h 1 b rfl).1⟩
theorem Has.f2 {w : World} {n : Nat} {a b : Value} (h : Has w n [a, b]) : w.frozen? ⟨n, 0, none⟩ = false ∧ w.frozen? ⟨n, 1, none⟩ = false := ⟨(h 0 a rfl).2, (h 1 b rfl).2⟩

/-- The two laid tables. -/
def pairsA : Array Value := (pairsL.map fun p => Value.string ⟨p.toArray⟩).toArray
def wordsA : Array Value := (wordsL.flatMap fun t => [Value.string t.1, Value.string ⟨t.2.toArray⟩]).toArray
def TB (w : World) : Prop := (∃ t fr, w.heap[0]? = some (.cells pairsA t fr)) ∧ (∃ t fr, w.heap[1]? = some (.cells wordsA t fr)) ∧ 2 ≤ w.heap.size
theorem TB.keep {w w' : World} (h : TB w) (hb : Below w.heap.size w w') : TB w' := by
  obtain ⟨⟨t, fr, h0⟩, ⟨t', fr', h1⟩, h2⟩ := h
  exact ⟨⟨t, fr, (hb.block 0 (by omega)).trans h0⟩, ⟨t', fr', (hb.block 1 (by omega)).trans h1⟩, by have := hb.size; omega⟩

/-- Every byte of a text is one that Scan lets pass. -/
def Asc (s : ByteArray) : Prop := ∀ (j : Nat) (b : UInt8), s.data.toList[j]? = some b → b.toNat < 128
theorem low_eq (l : List UInt8) : Lib.toLowerA l = low l := by
  unfold Lib.toLowerA low
  apply List.map_congr_left
  intro b _
  unfold Lib.lowerB loB
  have : Lib.isUpperB b = decide (65 ≤ b.toNat ∧ b.toNat ≤ 90) := by
    unfold Lib.isUpperB
    rw [Bool.eq_iff_iff]; simp [UInt8.le_iff_toNat_le]
  rw [this]
  by_cases c : 65 ≤ b.toNat ∧ b.toNat ≤ 90 <;> simp [c]
theorem sub_ext (s : ByteArray) (a b : Nat) : (s.extract a b).data.toList = sub s.data.toList a b := Lib.extract_data s a b
theorem idx_nn (l : List UInt8) (c : UInt8) : 0 ≤ Lib.indexByte l c ↔ c ∈ l := by
  induction l with
  | nil => simp [Lib.indexByte]
  | cons b l ih =>
    unfold Lib.indexByte
    have hg := Lib.indexByte_ge l c
    by_cases h1 : b = c
    · simp [h1]
    · have h1' : ¬ c = b := fun e => h1 e.symm
      by_cases h2 : Lib.indexByte l c = -1
      · simp [h1, h1', h2, ← ih]
      · simp [h1, h1', h2, ← ih]; omega
/-- strings.ToLower of a part of a text. -/
theorem lower_c (s : ByteArray) (a b : Nat) (hs : s.size ≤ 1000000) (ha : Asc s) (w : World) :
    Calls Tryd.prog 48 #[.string (s.extract a b)] w fun e w' => e = .returned (.string ⟨(low (sub s.data.toList a b)).toArray⟩) ∧ Below w.heap.size w w' := by
  have h := Tryd.strings_ToLower_ascii (s.extract a b) w (by have : (s.extract a b).size ≤ s.size := by simp [ByteArray.size_extract]; omega
                                                             omega) (fun j x hx => by
      rw [sub_ext] at hx
      unfold sub at hx
      rw [List.getElem?_take] at hx
      split at hx
      · rw [List.getElem?_drop] at hx; exact ha _ _ hx
      · cases hx)
  rw [sub_ext, low_eq] at h
  exact h
end Go.Proofs.YtcafnpfhjiaolaaDoor
