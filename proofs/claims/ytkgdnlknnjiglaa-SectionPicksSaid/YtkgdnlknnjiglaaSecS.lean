/- Mathematics of the next subscripts; the builtin clear on a slice of numbers. -/
import Derived.Test.YtkgdnlknnjiglaaSecG
import Derived.Laws.IdiomCopy
namespace Go.Proofs.Ytkgdnlknnjiglaa
open Go.RowKit

/-- The first dimension that is not at its end, or how many there are. -/
def frN : List Int → List Int → Nat
  | s :: S, e :: E => if s + 1 < e then 0 else frN S E + 1
  | S, _ => S.length
theorem frN_le : ∀ (S E : List Int), frN S E ≤ S.length
  | [], E => by cases E <;> simp [frN]
  | s :: S, [] => by simp [frN]
  | s :: S, e :: E => by
    have := frN_le S E
    unfold frN
    split
    · omega
    · simp; omega
theorem frN_at : ∀ (S E : List Int) (k : Nat) (s e : Int), S[k]? = some s → E[k]? = some e → s + 1 < e → (∀ (j : Nat) (x y : Int), j < k → S[j]? = some x → E[j]? = some y → ¬ x + 1 < y) → frN S E = k
  | [], _, _, _, _, h, _, _, _ => by simp at h
  | _ :: _, [], _, _, _, _, h, _, _ => by simp at h
  | a :: S, b :: E, 0, s, e, h1, h2, h3, _ => by
    simp at h1 h2; subst h1; subst h2
    unfold frN; rw [if_pos h3]
  | a :: S, b :: E, k + 1, s, e, h1, h2, h3, h4 => by
    unfold frN
    rw [if_neg (h4 0 a b (by omega) rfl rfl), frN_at S E k s e (by simpa using h1) (by simpa using h2) h3 (fun j x y hj hx hy => h4 (j + 1) x y (by omega) (by simpa using hx) (by simpa using hy))]
theorem frN_none : ∀ (S E : List Int), S.length = E.length → (∀ (j : Nat) (x y : Int), S[j]? = some x → E[j]? = some y → ¬ x + 1 < y) → frN S E = S.length
  | [], E, _, _ => by cases E <;> simp [frN]
  | _ :: _, [], h, _ => by simp at h
  | a :: S, b :: E, h, h4 => by
    unfold frN
    rw [if_neg (h4 0 a b rfl rfl), frN_none S E (by simpa using h) (fun j x y hx hy => h4 (j + 1) x y (by simpa using hx) (by simpa using hy))]
    simp
/-- All subscripts are within their extents. -/
def inR : List Int → List Int → Bool
  | s :: S, e :: E => subB s e && inR S E
  | [], [] => true
  | _, _ => false
theorem inR_iff : ∀ {S E : List Int}, inR S E = true ↔ S.length = E.length ∧ ∀ (j : Nat) (x y : Int), S[j]? = some x → E[j]? = some y → subB x y = true
  | [], [] => by simp [inR]
  | [], _ :: _ => by simp [inR]
  | _ :: _, [] => by simp [inR]
  | s :: S, e :: E => by
    unfold inR
    rw [Bool.and_eq_true, inR_iff (S := S) (E := E)]
    constructor
    · rintro ⟨h1, h2, h3⟩
      refine ⟨by simp [h2], fun j x y hx hy => ?_⟩
      cases j with
      | zero => simp at hx hy; subst hx; subst hy; exact h1
      | succ j => exact h3 j x y (by simpa using hx) (by simpa using hy)
    · rintro ⟨h1, h2⟩
      exact ⟨h2 0 s e rfl rfl, by simpa using h1, fun j x y hx hy => h2 (j + 1) x y (by simpa using hx) (by simpa using hy)⟩
def zeros (n : Nat) : List Int := List.replicate n 0
/-- Subscripts, moved on at one dimension: those ahead are 0. -/
def upto0 (S : List Int) (k : Nat) : List Int := zeros k ++ S.drop k
def bump (S : List Int) (k : Nat) : List Int := zeros k ++ ((S.drop k).head?.getD 0 + 1) :: S.drop (k + 1)
def nextB (E S : List Int) : Bool := inR S E && decide (frN S E < S.length)
def nextS (E S : List Int) : List Int := if inR S E = true then (if frN S E < S.length then bump S (frN S E) else zeros S.length) else S
theorem next_no {E S : List Int} (h : inR S E = false) : nextB E S = false ∧ nextS E S = S := by unfold nextB nextS; rw [h]; exact ⟨rfl, rfl⟩
theorem next_end {E S : List Int} (h : inR S E = true) (h2 : frN S E = S.length) : nextB E S = false ∧ nextS E S = zeros S.length := by
  unfold nextB nextS; rw [h, h2]; simp
theorem next_yes {E S : List Int} (h : inR S E = true) (h2 : frN S E < S.length) : nextB E S = true ∧ nextS E S = bump S (frN S E) := by
  unfold nextB nextS; rw [h]; simp [h2]
theorem bump_eq {S : List Int} {k : Nat} {s : Int} (h : S[k]? = some s) : bump S k = zeros k ++ (s + 1) :: S.drop (k + 1) := by
  unfold bump
  rw [List.head?_drop, h]; rfl
theorem bump_len {S : List Int} {k : Nat} (h : k < S.length) : (bump S k).length = S.length := by simp [bump, zeros]; omega
theorem upto0_len {S : List Int} {k : Nat} (h : k ≤ S.length) : (upto0 S k).length = S.length := by simp [upto0, zeros]; omega
theorem upto0_all (S : List Int) : upto0 S S.length = zeros S.length := by simp [upto0]
theorem upto0_at {S : List Int} {k j : Nat} (hk : k ≤ j) : (upto0 S k)[j]? = S[j]? := by
  unfold upto0 zeros
  rw [List.getElem?_append_right (by simpa using hk), List.getElem?_drop]
  simp; congr 1; omega
theorem upto0_set {S : List Int} {k : Nat} (h : k < S.length) : (upto0 S k).set k 0 = upto0 S (k + 1) := by
  unfold upto0 zeros
  rw [List.set_append_right _ _ (by simp), List.length_replicate, Nat.sub_self, List.drop_eq_getElem_cons h, List.set_cons_zero, List.replicate_succ', List.append_assoc]
  rfl
theorem upto0_bump {S : List Int} {k : Nat} {s : Int} (h : S[k]? = some s) : (upto0 S k).set k (s + 1) = bump S k := by
  have hk := (List.getElem?_eq_some_iff.1 h).1
  rw [bump_eq h]
  unfold upto0 zeros
  rw [List.set_append_right _ _ (by simp), List.length_replicate, Nat.sub_self, List.drop_eq_getElem_cons hk, List.set_cons_zero]

/-- A list of numbers, with zeros written over its first n cells. -/
theorem has_clear {w : World} {b n : Nat} {S : List Int} (h : Has w b (icells S)) (hn : n ≤ S.length) : Has (w.setCells b 0 (icells (zeros n))) b (icells (upto0 S n)) := by
  have hlen : (icells (zeros n)).length = n := by simp [icells, zeros]
  intro j u hu
  obtain ⟨x, hx, rfl⟩ := icells_inv hu
  have hfz : ∀ j, j < S.length → w.frozen? ⟨b, j, none⟩ = false ∧ (w.cell? ⟨b, j, none⟩).isSome = true := fun j hj => by
    have := h j _ (icells_at (List.getElem?_eq_getElem hj))
    exact ⟨this.2, by rw [this.1]; rfl⟩
  have hj : j < S.length := by
    have := (List.getElem?_eq_some_iff.1 hx).1
    rwa [upto0_len hn] at this
  refine ⟨?_, by rw [World.frozen?_setCells]; exact (hfz j hj).1⟩
  by_cases hjn : j < n
  · have h1 := World.cell?_setCells_in b (icells (zeros n)) 0 w (fun i hi => by rw [Nat.zero_add]; exact (hfz i (by omega)).2) j (by omega)
    rw [Nat.zero_add] at h1
    rw [h1]
    unfold upto0 at hx
    rw [List.getElem?_append_left (by simpa [zeros] using hjn)] at hx
    have : x = 0 := by
      unfold zeros at hx
      rw [List.getElem?_replicate] at hx
      rw [if_pos hjn] at hx
      simpa using hx.symm
    rw [this]
    simp [icells, zeros]
  · rw [World.cell?_setCells_out b _ 0 w _ (fun _ _ => Or.inr (by simp [icells, zeros]; omega))]
    rw [upto0_at (by omega)] at hx
    exact (h j _ (icells_at hx)).1
theorem run_clear (w : World) (ty : TypeId) (b n c : Nat) (S : List Int) (h : Has w b (icells S)) (hn : n ≤ S.length) :
    (Builtin.clear_ #[29] ty #[.slice (some ⟨b, 0, none⟩) n c]).run Try.prog w = .ok (.tuple #[]) (w.setCells b 0 (icells (zeros n))) := by
  rcases n with _ | n
  · simp [Builtin.clear_, run_underlying Try.underlying29, zeros, icells, World.setCells]
  · have hz : ∀ w : World, (zeroValue 3).run Try.prog w = .ok (.int .i64 0) w := fun w => by kernel_rfl
    have hl : (Builtin.zeroCells #[Value.int .i64 0] (n + 1)).toList = icells (zeros (n + 1)) := by
      apply List.ext_getElem?
      intro j
      by_cases hj : j < n + 1 <;> simp [Builtin.zeroCells, icells, zeros, hj, Nat.mod_one]
    have hst := run_storeCells_cells (P := Try.prog) b 0 (icells (zeros (n + 1))) 0 w (fun j hj => by
        rw [icells_len] at hj
        simp [zeros] at hj
        have := (h j _ (icells_at (List.getElem?_eq_getElem (show j < S.length by omega)))).1
        simp only [Nat.zero_add]
        rw [this]; rfl) (fun j hj => by
        rw [icells_len] at hj
        simp [zeros] at hj
        simp only [Nat.zero_add]
        exact (h j _ (icells_at (List.getElem?_eq_getElem (show j < S.length by omega)))).2) (icells_one _)
    simp [Builtin.clear_, run_underlying Try.underlying29, hz, Value.cells, hl, hst]
/-- Only blocks of a set have changed, and what is new. -/
structure KB (w w' : World) (S : Nat → Prop) : Prop where
  os : w'.os = w.os
  tape : w'.tape = w.tape
  output : w'.output = w.output
  size : w.heap.size ≤ w'.heap.size
  block : ∀ k, k < w.heap.size → ¬ S k → w'.heap[k]? = w.heap[k]?
theorem KB.refl (w : World) (S : Nat → Prop) : KB w w S := ⟨rfl, rfl, rfl, Nat.le_refl _, fun _ _ _ => rfl⟩
theorem KB.trans {a b c : World} {S : Nat → Prop} (h : KB a b S) (k : KB b c S) : KB a c S :=
  ⟨k.os.trans h.os, k.tape.trans h.tape, k.output.trans h.output, Nat.le_trans h.size k.size, fun i hi hs => (k.block i (Nat.lt_of_lt_of_le hi h.size) hs).trans (h.block i hi hs)⟩
theorem KB.mono {a b : World} {S T : Nat → Prop} (h : KB a b S) (hs : ∀ k, S k → T k) : KB a b T :=
  ⟨h.os, h.tape, h.output, h.size, fun i hi hn => h.block i hi fun hk => hn (hs i hk)⟩
theorem KB.of_below {a b : World} {B : Nat} (S : Nat → Prop) (h : Below B a b) (hB : a.heap.size ≤ B) : KB a b S :=
  ⟨h.os, h.tape, h.output, h.size, fun i hi _ => h.block i (by omega)⟩
theorem KB.of_grown {a b : World} {r : Option Nat} {S : Nat → Prop} (h : a.grownBy b r) (hs : ∀ k, some k = r → S k) : KB a b S :=
  ⟨h.os, h.tape, h.output, h.size, fun i hi hn => h.block i hi fun e => hn (hs i e)⟩
theorem KB.set {a : World} {S : Nat → Prop} {b i : Nat} (v : Value) (hs : S b) : KB a (a.setCell ⟨b, i, none⟩ v) S :=
  ⟨rfl, rfl, rfl, by simp [World.setCell], fun k _ hk => Below.heap_setCell a ⟨b, i, none⟩ v k (by rintro rfl; exact hk hs)⟩
theorem KB.below {w a b : World} {B : Nat} {S : Nat → Prop} (h : Below B w a) (k : KB a b S) (hB : ∀ i, S i → B ≤ i) (hBa : B ≤ a.heap.size) : Below B w b :=
  ⟨k.os.trans h.os, k.tape.trans h.tape, k.output.trans h.output, Nat.le_trans h.size k.size, fun i hi => (k.block i (by omega) (fun hs => by have := hB i hs; omega)).trans (h.block i hi)⟩
theorem Has.kb {w w' : World} {n : Nat} {xs : List Value} {S : Nat → Prop} (h : Has w n xs) (k : KB w w' S) (hn : ¬ S n) : Has w' n xs := fun i v hv => by
  obtain ⟨h1, h2⟩ := h i v hv
  have hl := World.block_lt_of_cell? w _ h1
  have hb := k.block n hl hn
  exact ⟨by rw [World.cell?_of_block (a := ⟨n, i, none⟩) hb]; exact h1, by rw [World.frozen?_of_block (a := ⟨n, i, none⟩) hb]; exact h2⟩
theorem KB.setCells {S : Nat → Prop} {b : Nat} (hs : S b) : ∀ (vs : List Value) (o : Nat) (a : World), KB a (a.setCells b o vs) S
  | [], _, a => KB.refl a S
  | v :: r, o, _ => (KB.set v hs).trans (KB.setCells hs r (o + 1) _)
end Go.Proofs.Ytkgdnlknnjiglaa
