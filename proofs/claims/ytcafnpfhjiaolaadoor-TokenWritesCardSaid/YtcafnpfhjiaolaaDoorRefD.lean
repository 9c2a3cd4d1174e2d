import Derived.Test.YtcafnpfhjiaolaaDoorRefC
import Derived.Test.YtcafnpfhjiaolaaDoorTokD
namespace Go.Proofs.YtcafnpfhjiaolaaDoor
open Go.RowKit

theorem cell_alloc {w : World} {l : List Value} {t : TypeId} {j : Nat} {v : Value} (h : l[j]? = some v) : (w.alloc (.cells l.toArray t)).cell? ⟨w.heap.size, j, none⟩ = some v := by
  simp [go_sem, h]
theorem cell_alloc2 {w : World} {o : Obj} {l : List Value} {t : TypeId} {j : Nat} {v : Value} (h : l[j]? = some v) : ((w.alloc o).alloc (.cells l.toArray t)).drew.cell? ⟨w.heap.size + 1, j, none⟩ = some v := by
  have h1 := cell_alloc (w := w.alloc o) (t := t) h
  have h2 : (w.alloc o).heap.size = w.heap.size + 1 := by simp [go_sem]
  rw [h2] at h1
  exact h1
theorem starts6_c (s : ByteArray) (o : Obj) (w : World) : Calls Tryd.prog 40 #[.slice (some ⟨w.heap.size + 1, 0, none⟩) 6 6, .string s] ((w.alloc o).alloc (.cells (scells rWords).toArray 9)).drew fun e w' => e = .returned (.string ⟨(stP rWords s.data.toList).toArray⟩) ∧ Below ((w.alloc o).alloc (.cells (scells rWords).toArray 9)).drew.heap.size ((w.alloc o).alloc (.cells (scells rWords).toArray 9)).drew w' :=
  starts_c rWords (w.heap.size + 1) 6 (by decide) (by decide) s _ fun j t h => cell_alloc2 (by unfold scells; rw [List.getElem?_map, h]; rfl)
theorem starts21_c (s : ByteArray) (o : Obj) (w : World) : Calls Tryd.prog 40 #[.slice (some ⟨w.heap.size + 1, 0, none⟩) 21 21, .string s] ((w.alloc o).alloc (.cells (scells rOps).toArray 9)).drew fun e w' => e = .returned (.string ⟨(stP rOps s.data.toList).toArray⟩) ∧ Below ((w.alloc o).alloc (.cells (scells rOps).toArray 9)).drew.heap.size ((w.alloc o).alloc (.cells (scells rOps).toArray 9)).drew w' :=
  starts_c rOps (w.heap.size + 1) 21 (by decide) (by decide) s _ fun j t h => cell_alloc2 (by unfold scells; rw [List.getElem?_map, h]; rfl)

theorem isW_drop (L : List UInt8) (i : Nat) (t : List UInt8) (ht : t ≠ []) : isW (L.drop i) 0 t = isW L i t := by
  unfold isW sub
  rw [List.drop_zero]
  have hp : 0 < t.length := List.length_pos_iff.2 ht
  have h1 : (0 + t.length ≤ (L.drop i).length) ↔ i + t.length ≤ L.length := by rw [List.length_drop]; omega
  have h2 : 0 + t.length - 0 = i + t.length - i := by omega
  rw [h2]
  simp only [h1]
theorem find_same {α : Type} {p q : α → Bool} : ∀ {l : List α}, (∀ x ∈ l, p x = q x) → l.find? p = l.find? q
  | [], _ => rfl
  | x :: l, h => by
    rw [List.find?_cons, List.find?_cons, h x (List.mem_cons_self ..), find_same fun y hy => h y (List.mem_cons_of_mem _ hy)]
/-- No word begins the rest of a text: none stands at the place. -/
theorem st_words (L : List UInt8) (i : Nat) : stP rWords (L.drop i) = [] ↔ (wordP L i).isSome = false := by
  unfold stP wordP rWords
  rw [List.find?_map]
  have h2 : ∀ t ∈ wordsL, t.2 ≠ [] := by decide
  rw [find_same (p := (fun t => isW (L.drop i) 0 t) ∘ fun x : Tok => x.2) (q := fun w => isW L i w.2) fun t ht => isW_drop L i t.2 (h2 t ht)]
  generalize h : List.find? (fun w => isW L i w.2) wordsL = o
  cases o with
  | none => exact ⟨fun _ => rfl, fun _ => rfl⟩
  | some t => exact ⟨fun h3 => absurd h3 (h2 t (List.mem_of_find?_eq_some h)), fun h3 => by cases h3⟩

/-- How an exponent's length and its end agree. -/
theorem pow_exp (L : List UInt8) (i : Nat) : i + powN L i = expP L i ∨ cI (bt L (i + powN L i)) = true ∧ expP L i = i ∧ cI (bt L i) = true := by
  unfold powN expP
  by_cases h : cE (bt L i) = true
  · rw [if_pos h, if_pos h]
    have hf : (if cS (bt L (i + 1)) = true then i + 2 else i + 1) = i + (if cS (bt L (i + 1)) = true then 2 else 1) := by split <;> rfl
    simp only [hf]
    generalize (if cS (bt L (i + 1)) = true then 2 else 1) = n
    have hg := rn_ge cD L (i + n)
    by_cases h0 : rn cD L (i + n) - (i + n) = 0
    · left
      rw [if_pos h0, if_pos (Or.inl (by omega))]; rfl
    · rw [if_neg h0]
      by_cases h3 : i + n + 3 < rn cD L (i + n)
      · right
        rw [if_pos (Or.inr h3)]
        refine ⟨?_, rfl, ?_⟩
        · have := (rn_in (p := cD) (L := L) (i := i + n) (i + n + 3) (by omega) h3).1
          have e : i + (n + min (rn cD L (i + n) - (i + n)) 3) = i + n + 3 := by omega
          rw [e]; unfold cI; rw [this]; simp
        · unfold cE at h; unfold cI cL
          simp only [decide_eq_true_eq] at h
          simp only [Bool.or_eq_true, decide_eq_true_eq]; omega
      · left
        rw [if_neg (by omega)]; omega
  · left
    rw [if_neg h, if_neg h]; rfl

theorem numP_eq' (L : List UInt8) (i e1 e2 e3 : Nat) (p : Bool) (h1 : e1 = rn cD L i) (hp : pbP L e1 = p) (h2 : e2 = if p = true then rn cD L (e1 + 1) else e1) (h3 : e3 = e2 + powN L e2) :
    numP L i = if (if (p || decide (e2 < e3)) = true then 60 else 10) < (if p = true then (e1 - i) + (e2 - e1 - 1) else e1 - i) ∨ cI (bt L e3) = true then none else some ((if (p || decide (e2 < e3)) = true then kReal else kInt, low (sub L i e3)), e3) := by
  rcases pow_exp L e2 with h | ⟨ha, hb, hc⟩
  · exact numP_eq L i e1 e2 e3 p h1 hp h2 (by rw [h3, h])
  · rw [numP_eq L i e1 e2 e2 p h1 hp h2 hb.symm, if_pos (Or.inr hc), if_pos (Or.inr (by rw [h3]; exact ha))]

theorem skA {w wp : World} {R : Nat} {xs : List Value} {o : Obj} (h : Below w.heap.size w wp ∧ Has wp R xs) : Below w.heap.size w (wp.alloc o) ∧ Has (wp.alloc o) R xs := ⟨h.1.alloc h.1.size o, h.2.alloc o⟩
theorem skH {w wp w' : World} {R : Nat} {xs : List Value} (h : Below w.heap.size w wp ∧ Has wp R xs) (hb : Below wp.heap.size wp w') : Below w.heap.size w w' ∧ Has w' R xs := ⟨bt_ h.1 hb, h.2.keep hb⟩
end Go.Proofs.YtcafnpfhjiaolaaDoor
