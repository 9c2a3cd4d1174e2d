/- What Pick gives. -/
import Derived.Test.YtkgdnlknnjiglaaPkD
namespace Go.Proofs.Ytkgdnlknnjiglaa
open Go.RowKit

def pkOk (d : DS) (Ls : List (List Int)) : Bool := vldB d && decide (Ls.length = d.ex.length)
def inP (d : DS) (Ls : List (List Int)) (k : Nat) : Prop := ∀ (j : Nat) (l : List Int) (e : Int), j < k → Ls[j]? = some l → d.ex[j]? = some e → l.all (fun s => subB s e) = true
def pkIn (d : DS) (Ls : List (List Int)) : Bool := (Ls.zip d.ex).all fun p => p.1.all fun s => subB s p.2
def pkFit (Ls : List (List Int)) : Bool := (List.range (Ls.length + 1)).all fun k => decide (pn Ls k ≤ 4000)
def pkL (d : DS) (Ls : List (List Int)) : List Int := if (pkOk d Ls && pkIn d Ls && pkFit Ls) = true then pkK Ls d.st d.b Ls.length else []
def pkE (d : DS) (Ls : List (List Int)) : Int := if pkOk d Ls = true then (if pkIn d Ls = true then (if pkFit Ls = true then 0 else 2) else 92) else 2
theorem pk_no {d : DS} {Ls : List (List Int)} (h : pkOk d Ls = false) : pkL d Ls = [] ∧ pkE d Ls = 2 := by unfold pkL pkE; rw [h]; exact ⟨rfl, rfl⟩
theorem pk_out {d : DS} {Ls : List (List Int)} (h : pkOk d Ls = true) (h2 : pkIn d Ls = false) : pkL d Ls = [] ∧ pkE d Ls = 92 := by unfold pkL pkE; rw [h, h2]; exact ⟨rfl, rfl⟩
theorem pk_big {d : DS} {Ls : List (List Int)} (h : pkOk d Ls = true) (h2 : pkIn d Ls = true) (h3 : pkFit Ls = false) : pkL d Ls = [] ∧ pkE d Ls = 2 := by unfold pkL pkE; rw [h, h2, h3]; exact ⟨rfl, rfl⟩
theorem pk_yes {d : DS} {Ls : List (List Int)} (h : pkOk d Ls = true) (h2 : pkIn d Ls = true) (h3 : pkFit Ls = true) : pkL d Ls = pkK Ls d.st d.b Ls.length ∧ pkE d Ls = 0 := by unfold pkL pkE; rw [h, h2, h3]; exact ⟨rfl, rfl⟩
theorem in_all {d : DS} {Ls : List (List Int)} : pkIn d Ls = true ↔ inP d Ls Ls.length := by
  unfold pkIn inP
  rw [List.all_eq_true]
  constructor
  · intro h j l e _ h1 h2
    exact h (l, e) (List.mem_of_getElem? (zip_atL h1 h2))
  · intro h p hp
    obtain ⟨j, hj⟩ := List.getElem?_of_mem hp
    rw [List.getElem?_zip_eq_some] at hj
    exact h j p.1 p.2 (List.getElem?_eq_some_iff.1 hj.1).1 hj.1 hj.2
theorem in_bad {d : DS} {Ls : List (List Int)} {j : Nat} {l : List Int} {e s : Int} (h1 : Ls[j]? = some l) (h2 : d.ex[j]? = some e) (hs : s ∈ l) (hb : subB s e = false) : pkIn d Ls = false := by
  rw [Bool.eq_false_iff]
  intro h
  unfold pkIn at h
  have := List.all_eq_true.1 h (l, e) (List.mem_of_getElem? (zip_atL h1 h2))
  rw [List.all_eq_true] at this
  rw [this s hs] at hb
  cases hb
theorem fit_big {Ls : List (List Int)} {k : Nat} (hk : k ≤ Ls.length) (h : 4000 < pn Ls k) : pkFit Ls = false := by
  unfold pkFit
  rw [List.all_eq_false]
  exact ⟨k, List.mem_range.2 (by omega), by simp; omega⟩
theorem fit_all {Ls : List (List Int)} (h : ∀ k, k ≤ Ls.length → pn Ls k ≤ 4000) : pkFit Ls = true := by
  unfold pkFit
  rw [List.all_eq_true]
  intro k hk
  have := List.mem_range.1 hk
  exact decide_eq_true (h k (by omega))
end Go.Proofs.Ytkgdnlknnjiglaa
