/- Contracts of the reader's wrong and the draft's add, and the frame of what changes two blocks. -/
import Derived.Test.YtdandmbgdndnjaaGreatDoorSrcI
namespace Go.Proofs.YtdandmbgdndnjaaGreatDoor
open Go.RowKit

/-- Only blocks of a set have changed, and what is new. -/
structure KB (w w' : World) (S : Nat → Prop) : Prop where
  os : w'.os = w.os
  tape : w'.tape = w.tape
  output : w'.output = w.output
  size : w.heap.size ≤ w'.heap.size
  block : ∀ k, k < w.heap.size → ¬ S k → w'.heap[k]? = w.heap[k]?
theorem KB.refl (w : World) (S : Nat → Prop) : KB w w S := ⟨rfl, rfl, rfl, Nat.le_refl _, fun _ _ _ => rfl⟩
theorem KB.trans {a b c : World} {S : Nat → Prop} (h : KB a b S) (k : KB b c S) : KB a c S :=
  ⟨k.os.trans h.os, k.tape.trans h.tape, k.output.trans h.output, Nat.le_trans h.size k.size, fun i hi hs => (k.block i (Nat.lt_of_lt_of_le hi h.size) hs).trans (h.block i hi hs)⟩
theorem KB.mono {a b : World} {S T : Nat → Prop} (h : KB a b S) (hs : ∀ k, S k → T k) : KB a b T :=
  ⟨h.os, h.tape, h.output, h.size, fun i hi hn => h.block i hi fun hk => hn (hs i hk)⟩
theorem KB.of_below {a b : World} {B : Nat} (S : Nat → Prop) (h : Below B a b) (hB : a.heap.size ≤ B) : KB a b S :=
  ⟨h.os, h.tape, h.output, h.size, fun i hi _ => h.block i (by omega)⟩
theorem KB.of_grown {a b : World} {r : Option Nat} {S : Nat → Prop} (h : a.grownBy b r) (hs : ∀ k, some k = r → S k) : KB a b S :=
  ⟨h.os, h.tape, h.output, h.size, fun i hi hn => h.block i hi fun e => hn (hs i e)⟩
theorem KB.set {a : World} {S : Nat → Prop} {b i : Nat} (v : Value) (hs : S b) : KB a (a.setCell ⟨b, i, none⟩ v) S :=
  ⟨rfl, rfl, rfl, by simp [World.setCell], fun k _ hk => Below.heap_setCell a ⟨b, i, none⟩ v k (by rintro rfl; exact hk hs)⟩
theorem KB.below {w a b : World} {B : Nat} {S : Nat → Prop} (h : Below B w a) (k : KB a b S) (hB : ∀ i, S i → B ≤ i) (hBa : B ≤ a.heap.size) : Below B w b :=
  ⟨k.os.trans h.os, k.tape.trans h.tape, k.output.trans h.output, Nat.le_trans h.size k.size, fun i hi => (k.block i (by omega) (fun hs => by have := hB i hs; omega)).trans (h.block i hi)⟩
theorem Has.kb {w w' : World} {n : Nat} {xs : List Value} {S : Nat → Prop} (h : Has w n xs) (k : KB w w' S) (hn : ¬ S n) : Has w' n xs := fun i v hv => by
  obtain ⟨h1, h2⟩ := h i v hv
  have hl := World.block_lt_of_cell? w _ h1
  have hb := k.block n hl hn
  exact ⟨by rw [World.cell?_of_block (a := ⟨n, i, none⟩) hb]; exact h1, by rw [World.frozen?_of_block (a := ⟨n, i, none⟩) hb]; exact h2⟩
theorem Has.c3 {w : World} {n : Nat} {a b c : Value} (h : Has w n [a, b, c]) : w.cell? ⟨n, 0, none⟩ = some a ∧ w.cell? ⟨n, 1, none⟩ = some b ∧ w.cell? ⟨n, 2, none⟩ = some c := ⟨(h 0 a rfl).1, (h 1 b rfl).1, (h 2 c rfl).1⟩
theorem Has.f3 {w : World} {n : Nat} {a b c : Value} (h : Has w n [a, b, c]) : w.frozen? ⟨n, 0, none⟩ = false ∧ w.frozen? ⟨n, 1, none⟩ = false ∧ w.frozen? ⟨n, 2, none⟩ = false := ⟨(h 0 a rfl).2, (h 1 b rfl).2, (h 2 c rfl).2⟩
theorem Has.c4 {w : World} {n : Nat} {a b c d : Value} (h : Has w n [a, b, c, d]) : w.cell? ⟨n, 0, none⟩ = some a ∧ w.cell? ⟨n, 1, none⟩ = some b ∧ w.cell? ⟨n, 2, none⟩ = some c ∧ w.cell? ⟨n, 3, none⟩ = some d := ⟨(h 0 a rfl).1, (h 1 b rfl).1, (h 2 c rfl).1, (h 3 d rfl).1⟩
theorem Has.f4 {w : World} {n : Nat} {a b c d : Value} (h : Has w n [a, b, c, d]) : w.frozen? ⟨n, 0, none⟩ = false ∧ w.frozen? ⟨n, 1, none⟩ = false ∧ w.frozen? ⟨n, 2, none⟩ = false ∧ w.frozen? ⟨n, 3, none⟩ = false := ⟨(h 0 a rfl).2, (h 1 b rfl).2, (h 2 c rfl).2, (h 3 d rfl).2⟩

/-- The least line that is wrong, or 0, if one more is. -/
def wrN (l a : Nat) : Nat := if l = 0 ∨ a < l then a else l

set_option maxHeartbeats 1000000 in
theorem wrong_c (rb : Nat) (x y : Value) (l a : Nat) (w : World) (h : Has w rb [x, y, .int .i64 (l : Int)]) (hl : l ≤ 1000000) :
    Calls Tryz.prog 62 #[.pointer (some ⟨rb, 0, none⟩), .int .i64 (a : Int)] w fun e w' => e = .returned (.tuple #[]) ∧ Has w' rb [x, y, .int .i64 (wrN l a : Int)] ∧ KB w w' (fun k => k = rb) := by
  have hc := h.c3.2.2
  have hf := h.f3.2.2
  have H := Lib.hid h
  clear h
  by_cases h0 : l = 0
  · subst h0
    have Hw := Lib.hid (show wrN 0 a = a by unfold wrN; rw [if_pos (Or.inl rfl)])
    go_enter Tryz.func62, Tryz.ntmps62
    go_wp2
    go_end0
    refine ⟨rfl, ?_, KB.set _ rfl⟩
    rw [Hw.out]
    exact H.out.set (i := 2)
  · have f0 : ((l : Int) == 0) = false := by simp; omega
    by_cases h1 : a < l
    · have f1 : decide ((a : Int) < (l : Int)) = true := by simp; omega
      have f2 : decide (a < l) = true := by simp; omega
      have Hw := Lib.hid (show wrN l a = a by unfold wrN; rw [if_pos (Or.inr h1)])
      clear h0 h1
      go_enter Tryz.func62, Tryz.ntmps62
      go_wp2
      go_end0
      refine ⟨rfl, ?_, KB.set _ rfl⟩
      rw [Hw.out]
      exact H.out.set (i := 2)
    · have f1 : decide ((a : Int) < (l : Int)) = false := by simp; omega
      have f2 : decide (a < l) = false := by simp; omega
      have Hw := Lib.hid (show wrN l a = l by unfold wrN; rw [if_neg (by omega)])
      clear h0 h1
      go_enter Tryz.func62, Tryz.ntmps62
      go_wp2
      go_end0
      refine ⟨rfl, ?_, KB.refl _ _⟩
      rw [Hw.out]
      exact H.out
end Go.Proofs.YtdandmbgdndnjaaGreatDoor
