/- What lies in memory: boxes, lists of numbers, descriptors; contracts of the functions of numbers alone. -/
import Derived.Test.YtkgdnlknnjiglaaRows
import Derived.Test.YtkgdnlknnjiglaaSecM
import Derived.WalkKit
import Derived.WalkSpells
import Derived.WalkLawsBesides
import Derived.Handy
import Derived.Lib.Hide
import Derived.Laws.Rows
import Derived.Laws.AppendOwn
import Derived.RegionTactic
import Derived.Deep.QuietTactic
import Derived.BigQuiet
import Derived.ChangeAlike
namespace Go.Proofs.Ytkgdnlknnjiglaa
open Go.RowKit

/-- A cell that was there is there still. -/
theorem ck {wp w' : World} {p : Addr} {v : Value} (hb : Below wp.heap.size wp w') (h : wp.cell? p = some v) : w'.cell? p = some v := by
  rw [hb.cell (World.block_lt_of_cell? wp p h)]; exact h
theorem bt_ {w wp w' : World} (h : Below w.heap.size w wp) (hb : Below wp.heap.size wp w') : Below w.heap.size w w' := h.trans (hb.mono h.size)
theorem _root_.Go.RowKit.Below.st {B : Nat} {a w : World} {b i : Nat} {u : Value} (h : Below B a w) (hb : B ≤ b) : Below B a (w.setCell ⟨b, i, none⟩ u) := h.setCell hb u

/-- Block n of the world holds these cells, and none of them is frozen. -/
def Has (w : World) (n : Nat) (xs : List Value) : Prop := ∀ i v, xs[i]? = some v → w.cell? ⟨n, i, none⟩ = some v ∧ w.frozen? ⟨n, i, none⟩ = false

theorem Has.lt {w : World} {n : Nat} {x : Value} {xs : List Value} (h : Has w n (x :: xs)) : n < w.heap.size :=
  World.block_lt_of_cell? w _ (h 0 x rfl).1
theorem Has.keep {wp w' : World} {n : Nat} {xs : List Value} (h : Has wp n xs) (hb : Below wp.heap.size wp w') : Has w' n xs := fun i v hv => by
  obtain ⟨h1, h2⟩ := h i v hv
  have hn := World.block_lt_of_cell? wp _ h1
  exact ⟨by rw [hb.cell (p := ⟨n, i, none⟩) hn]; exact h1, by rw [hb.frozen (p := ⟨n, i, none⟩) hn]; exact h2⟩
theorem Has.alloc {wp : World} {n : Nat} {xs : List Value} (h : Has wp n xs) (o : Obj) : Has (wp.alloc o) n xs := fun i v hv => by
  obtain ⟨h1, h2⟩ := h i v hv
  have hn := World.block_lt_of_cell? wp _ h1
  exact ⟨by rw [World.cell?_alloc_past o n i hn]; exact h1, by rw [World.frozen?_alloc_past o n i hn]; exact h2⟩
theorem Has.drew {wp : World} {n : Nat} {xs : List Value} (h : Has wp n xs) : Has wp.drew n xs := h
theorem Has.drewN {w : World} {n : Nat} {xs : List Value} (h : Has w n xs) (k : Nat) : Has (w.drewN k) n xs := h
theorem Has.new (wp : World) (xs : List Value) (t : TypeId) : Has (wp.alloc (.cells xs.toArray t)) wp.heap.size xs := fun i v hv => by
  exact ⟨by rw [World.cell?_alloc_at _ _ _ _ rfl]; simpa using hv, by rw [World.frozen?_alloc_at _ _ _ _ rfl]⟩
theorem Has.far {wp : World} {n m i : Nat} {xs : List Value} {v : Value} (h : Has wp n xs) (hne : m ≠ n) : Has (wp.setCell ⟨m, i, none⟩ v) n xs := fun j u hu => by
  obtain ⟨h1, h2⟩ := h j u hu
  exact ⟨(World.cell?_setCell_other wp ⟨m, i, none⟩ ⟨n, j, none⟩ v (by intro e; cases e; exact hne rfl)).trans h1, by rw [World.frozen?_setCell]; exact h2⟩
theorem Has.set {wp : World} {n i : Nat} {xs : List Value} {v : Value} (h : Has wp n xs) : Has (wp.setCell ⟨n, i, none⟩ v) n (xs.set i v) := fun j u hu => by
  by_cases e : i = j
  · subst e
    rw [List.getElem?_set_self'] at hu
    cases hx : xs[i]? with
    | none => rw [hx] at hu; cases hu
    | some y =>
      rw [hx] at hu; simp at hu; subst hu
      obtain ⟨h1, h2⟩ := h i y hx
      exact ⟨World.cell?_setCell_same wp _ _ h1, by rw [World.frozen?_setCell]; exact h2⟩
  · rw [List.getElem?_set_ne e] at hu
    obtain ⟨h1, h2⟩ := h j u hu
    exact ⟨(World.cell?_setCell_other wp ⟨n, i, none⟩ ⟨n, j, none⟩ v (by intro e'; cases e'; exact e rfl)).trans h1, by rw [World.frozen?_setCell]; exact h2⟩
theorem Has.c3 {w : World} {n : Nat} {a b c : Value} (h : Has w n [a, b, c]) : w.cell? ⟨n, 0, none⟩ = some a ∧ w.cell? ⟨n, 1, none⟩ = some b ∧ w.cell? ⟨n, 2, none⟩ = some c := ⟨(h 0 a rfl).1, (h 1 b rfl).1, (h 2 c rfl).1⟩
theorem Has.f3 {w : World} {n : Nat} {a b c : Value} (h : Has w n [a, b, c]) : w.frozen? ⟨n, 0, none⟩ = false ∧ w.frozen? ⟨n, 1, none⟩ = false ∧ w.frozen? ⟨n, 2, none⟩ = false := ⟨(h 0 a rfl).2, (h 1 b rfl).2, (h 2 c rfl).2⟩

/-- A number of 64 bits. -/
def Fit (x : Int) : Prop := -9223372036854775808 ≤ x ∧ x ≤ 9223372036854775807
/-- A slice that reads as a list of numbers. -/
def RI (w : World) (v : Value) (l : List Int) : Prop :=
  ∃ A cap, v = .slice A l.length cap ∧ l.length ≤ 9223372036854775807 ∧ (∀ x ∈ l, Fit x) ∧ (0 < l.length → ∃ b o : Nat, A = some ⟨b, o, none⟩ ∧ ∀ j x, l[j]? = some x → w.cell? ⟨b, o + j, none⟩ = some (.int .i64 x))
theorem RI.keep {w w' : World} {v : Value} {l : List Int} (h : RI w v l) (hb : Below w.heap.size w w') : RI w' v l := by
  obtain ⟨A, cap, rfl, hm, hf, hc⟩ := h
  exact ⟨A, cap, rfl, hm, hf, fun h0 => by obtain ⟨b, o, rfl, h1⟩ := hc h0; exact ⟨b, o, rfl, fun j u hu => ck hb (h1 j u hu)⟩⟩
theorem RI.drewN {w : World} {v : Value} {l : List Int} (h : RI w v l) (k : Nat) : RI (w.drewN k) v l := h
theorem RI.fit {w : World} {v : Value} {l : List Int} (h : RI w v l) : ∀ x ∈ l, Fit x := by
  obtain ⟨A, cap, rfl, hm, hf, hc⟩ := h; exact hf
theorem RI.len {w : World} {v : Value} {l : List Int} (h : RI w v l) : l.length ≤ 9223372036854775807 := by
  obtain ⟨A, cap, rfl, hm, hf, hc⟩ := h; exact hm
theorem RI.nil (w : World) (c : Nat) : RI w (.slice none 0 c) [] := ⟨none, c, rfl, by simp, by simp, fun h => by simp at h⟩
def icells (l : List Int) : List Value := l.map fun x => .int .i64 x
theorem icells_len (l : List Int) : (icells l).length = l.length := by simp [icells]
theorem icells_at {l : List Int} {j : Nat} {x : Int} (h : l[j]? = some x) : (icells l)[j]? = some (.int .i64 x) := by unfold icells; rw [List.getElem?_map, h]; rfl
theorem icells_inv {l : List Int} {j : Nat} {u : Value} (h : (icells l)[j]? = some u) : ∃ x, l[j]? = some x ∧ u = .int .i64 x := by
  unfold icells at h; rw [List.getElem?_map] at h
  obtain ⟨x, h1, h2⟩ := Option.map_eq_some_iff.1 h
  exact ⟨x, h1, h2.symm⟩
theorem icells_set (l : List Int) (i : Nat) (x : Int) : icells (l.set i x) = (icells l).set i (.int .i64 x) := by unfold icells; rw [List.map_set]
/-- A slice that owns a row reads as its list. -/
theorem RI.of_own {w : World} {b : Nat} {v : Value} {l : List Int} (h : w.ownsRow b 3 1 v l.length (icells l)) (hf : ∀ x ∈ l, Fit x) (hl : l.length ≤ 9223372036854775807) : RI w v l := by
  rcases h.2 with ⟨rfl, h1⟩ | ⟨g, cap, cur, rfl, hg, hc, hn, hm, hs, hx⟩
  · exact ⟨none, 0, by rw [h1], hl, hf, fun h0 => by omega⟩
  · refine ⟨_, cap, rfl, hl, hf, fun _ => ⟨g, 0, rfl, fun j u hu => ?_⟩⟩
    have := h.cells (g := g) rfl j _ (icells_at hu)
    rw [Addr.add_lit] at this
    exact this
/-- A slice over a block of the call's own, from its begin on. -/
def OI (w : World) (B : Nat) (v : Value) (l : List Int) : Prop :=
  ∃ A cap, v = .slice A l.length cap ∧ l.length ≤ 9223372036854775807 ∧ (∀ x ∈ l, Fit x) ∧ (0 < l.length → ∃ b : Nat, A = some ⟨b, 0, none⟩ ∧ B ≤ b ∧ Has w b (icells l))
theorem OI.ri {w : World} {B : Nat} {v : Value} {l : List Int} (h : OI w B v l) : RI w v l := by
  obtain ⟨A, cap, rfl, hm, hf, hc⟩ := h
  exact ⟨A, cap, rfl, hm, hf, fun h0 => by
    obtain ⟨b, rfl, _, h1⟩ := hc h0
    exact ⟨b, 0, rfl, fun j u hu => by rw [Nat.zero_add]; exact (h1 j _ (icells_at hu)).1⟩⟩
theorem OI.keep {w w' : World} {B : Nat} {v : Value} {l : List Int} (h : OI w B v l) (hb : Below w.heap.size w w') : OI w' B v l := by
  obtain ⟨A, cap, rfl, hm, hf, hc⟩ := h
  exact ⟨A, cap, rfl, hm, hf, fun h0 => by obtain ⟨b, rfl, h2, h1⟩ := hc h0; exact ⟨b, rfl, h2, h1.keep hb⟩⟩
theorem OI.more {w : World} {B B' : Nat} {v : Value} {l : List Int} (h : OI w B v l) (hB : B' ≤ B) : OI w B' v l := by
  obtain ⟨A, cap, rfl, hm, hf, hc⟩ := h
  exact ⟨A, cap, rfl, hm, hf, fun h0 => by obtain ⟨b, rfl, h2, h1⟩ := hc h0; exact ⟨b, rfl, by omega, h1⟩⟩
/-- A descriptor by value. -/
def RD (w : World) (v : Value) (d : DS) : Prop := ∃ ve vs, v = .agg #[.int .i64 d.b, ve, vs] ∧ RI w ve d.ex ∧ RI w vs d.st ∧ Fit d.b
theorem RD.keep {w w' : World} {v : Value} {d : DS} (h : RD w v d) (hb : Below w.heap.size w w') : RD w' v d := by
  obtain ⟨ve, vs, rfl, h1, h2, h3⟩ := h; exact ⟨ve, vs, rfl, h1.keep hb, h2.keep hb, h3⟩

theorem ret_b {a b : Bool} (h : a = b) : Ending.returned (.bool a) = .returned (.bool b) := by rw [h]
theorem ret_i {a b : Int} (h : a = b) : Ending.returned (.int .i64 a) = .returned (.int .i64 b) := by rw [h]
theorem below_dn {w w' : World} {B : Nat} (h : Below B w w') (n : Nat) : Below B w (w'.drewN n) := by
  induction n with
  | zero => exact h
  | succ n ih => exact ih.drew

theorem isFar_c (n : Int) (w : World) : Calls Try.prog 48 #[.int .i64 n] w fun e w' => e = .returned (.bool (!nearB n)) ∧ w = w' := by
  by_cases h1 : n < -2147483648
  · have H := Lib.hid (show (!nearB n) = true by unfold nearB; rw [decide_eq_false (show ¬ -2147483648 ≤ n by omega)]; rfl)
    go_enter Try.func48, Try.ntmps48
    go_wp2
    go_ret
    exact ⟨ret_b H.out.symm, rfl⟩
  · by_cases h2 : 2147483648 < n
    · have H := Lib.hid (show (!nearB n) = true by unfold nearB; rw [decide_eq_false (show ¬ n ≤ 2147483648 by omega)]; simp)
      go_enter Try.func48, Try.ntmps48
      go_wp2
      go_ret
      exact ⟨ret_b H.out.symm, rfl⟩
    · have H := Lib.hid (show (!nearB n) = false by rw [near_iff.2 (by omega)]; rfl)
      go_enter Try.func48, Try.ntmps48
      go_wp2
      go_ret
      exact ⟨ret_b H.out.symm, rfl⟩
theorem rnear_c (n : Int) (w : World) : Calls Try.prog 51 #[.int .i64 n] w fun e w' => e = .returned (.bool (nearB n)) ∧ w = w' := by
  by_cases h1 : -2147483648 ≤ n
  · by_cases h2 : n ≤ 2147483648
    · have H := Lib.hid (show nearB n = true from near_iff.2 (by omega))
      go_enter Try.func51, Try.ntmps51
      go_wp2
      go_ret
      exact ⟨ret_b H.out.symm, rfl⟩
    · have H := Lib.hid (show nearB n = false by unfold nearB; rw [decide_eq_false h2]; simp)
      go_enter Try.func51, Try.ntmps51
      go_wp2
      go_ret
      exact ⟨ret_b H.out.symm, rfl⟩
  · have H := Lib.hid (show nearB n = false by unfold nearB; rw [decide_eq_false h1]; simp)
    go_enter Try.func51, Try.ntmps51
    go_wp2
    go_ret
    exact ⟨ret_b H.out.symm, rfl⟩
/-- Within the bounds of a dimension. -/
def subB (n e : Int) : Bool := decide (0 ≤ n) && decide (n < e)
theorem sub_iff {n e : Int} : subB n e = true ↔ 0 ≤ n ∧ n < e := by unfold subB; simp
theorem isSub_c (n e : Int) (w : World) : Calls Try.prog 56 #[.int .i64 n, .int .i64 e] w fun r w' => r = .returned (.bool (subB n e)) ∧ w = w' := by
  by_cases h1 : 0 ≤ n
  · by_cases h2 : n < e
    · have H := Lib.hid (show subB n e = true from sub_iff.2 ⟨h1, h2⟩)
      go_enter Try.func56, Try.ntmps56
      go_wp2
      go_ret
      exact ⟨ret_b H.out.symm, rfl⟩
    · have H := Lib.hid (show subB n e = false by unfold subB; rw [decide_eq_false h2]; simp)
      go_enter Try.func56, Try.ntmps56
      go_wp2
      go_ret
      exact ⟨ret_b H.out.symm, rfl⟩
  · have H := Lib.hid (show subB n e = false by unfold subB; rw [decide_eq_false h1]; simp)
    go_enter Try.func56, Try.ntmps56
    go_wp2
    go_ret
    exact ⟨ret_b H.out.symm, rfl⟩
set_option maxHeartbeats 1000000 in
theorem isTriple_c (lo hi st : Int) (w : World) : Calls Try.prog 43 #[.agg #[.int .i64 lo, .int .i64 hi, .int .i64 st]] w fun r w' => r = .returned (.bool (triB lo hi st)) ∧ Below w.heap.size w w' := by
  obtain ⟨t, ht⟩ : ∃ t, t = triB lo hi st := ⟨_, rfl⟩
  have HT := Lib.hid ht
  obtain ⟨b1, e1⟩ : ∃ b, b = nearB lo := ⟨_, rfl⟩
  obtain ⟨b2, e2⟩ : ∃ b, b = nearB hi := ⟨_, rfl⟩
  obtain ⟨b3, e3⟩ : ∃ b, b = nearB st := ⟨_, rfl⟩
  have c1 := fun w => isFar_c lo w
  have c2 := fun w => isFar_c hi w
  have c3 := fun w => isFar_c st w
  rw [← e1] at c1; rw [← e2] at c2; rw [← e3] at c3
  unfold triB at HT
  rw [← e1, ← e2, ← e3] at HT
  have C1 := Lib.hid c1; have C2 := Lib.hid c2; have C3 := Lib.hid c3
  rw [← ht]
  clear c1 c2 c3 e1 e2 e3 ht
  by_cases h0 : st = 0
  · subst h0
    have H := Lib.hid (show t = false by rw [HT.out]; simp)
    clear HT
    go_enter Try.func43, Try.ntmps43
    go_wp2
    go_ret
    exact ⟨ret_b H.out.symm, (Below.refl _ _).alloc (Nat.le_refl _) _⟩
  · have f0 : (st == 0) = false := by simpa using h0
    have f1 : (st != 0) = true := by simpa using h0
    rw [decide_eq_false h0] at HT
    clear h0
    cases b1 <;> cases b2 <;> cases b3
    all_goals
      have H := Lib.hid (show t = _ from HT.out)
      clear HT
      simp only [Bool.and_false, Bool.and_true, Bool.not_false] at H
      go_enter Try.func43, Try.ntmps43
      go_wp2_with (first | (go_at_call 48; first | ((with_reducible refine (C1.out _).mono ?_); rintro e w' ⟨rfl, rfl⟩) | ((with_reducible refine (C2.out _).mono ?_); rintro e w' ⟨rfl, rfl⟩) | ((with_reducible refine (C3.out _).mono ?_); rintro e w' ⟨rfl, rfl⟩)) | go_in)
      go_ret
      exact ⟨ret_b H.out.symm, (Below.refl _ _).alloc (Nat.le_refl _) _⟩
end Go.Proofs.Ytkgdnlknnjiglaa
