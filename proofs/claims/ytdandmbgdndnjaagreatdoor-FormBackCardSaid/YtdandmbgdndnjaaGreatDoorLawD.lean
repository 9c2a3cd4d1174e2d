/- The end of a law's proof where arguments lead to memory; an argument that is a slice of statements. -/
import Derived.Test.YtdandmbgdndnjaaGreatDoorLawC
import Derived.Test.YtdandmbgdndnjaaGreatDoorWrtB
import Derived.Carry
import Derived.Deep.Slices
import Derived.Deep.Strs
namespace Go.Proofs.YtdandmbgdndnjaaGreatDoor
open Go.ChangeShapes Go.WideShapes Go.ChangeAt Go.WideMaps Go.WideElems Go.RowKit

section
variable {H : Type} {enc : TypeId × Value → H} {P : Program}
/-- The same where arguments lead to memory (at the places ps), and no variable is named. -/
theorem post_mem {f : Func} {s : ChangeSpec} {apart fresh handsOn again : Bool} {W W' : World} {args : Array Value} {v : Value} {ds gs : List (DataW H)} {ps : List MemPlace}
    (hW : DataW.Whole enc P f.params.toList s.vars apart W args.toList ds gs ps)
    (hres : ∀ (b : Nat) (sp : Nat → Bool) (hd : Bool), DataW.TrodAll enc P W' b sp hd f.resultTypes.toList (v.resultList f.resultTypes.size) (s.fn H (ds ++ gs)).results [])
    (hargs : ∀ sp : Nat → Bool, (∀ x ∈ ps, sp x.block = true) → DataW.TrodAll enc P W' 0 sp true f.params.toList args.toList (s.fn H (ds ++ gs)).args ps)
    (hvars : ∀ sp : Nat → Bool, DataW.TrodVars enc P W' sp s.vars (s.fn H (ds ++ gs)).vars [])
    (hb : Below W.heap.size W W')
    (hok : ∀ (j : Nat) (t : TypeId) (r : Value), f.resultTypes[j]? = some t → (v.resultList f.resultTypes.size)[j]? = some r → Value.okWide P W' .any 0 t r) :
    s.post enc P f apart fresh handsOn again W args v W' := by
  have hin : ∀ x ∈ ps, x.block < W.heap.size := fun x hx => hW.lt x hx
  have hW2 := hW
  obtain ⟨_, _, _, _, _, hz, hn⟩ := hW2
  refine ⟨ds, gs, ps, [], ps, [], hW, hres _ _ _, hargs _ (fun x hx => by simpa using hin x hx), hvars _, World.keptBut_mono (fun x hx => ⟨hx, by simp [hx]⟩) (hb.frame (· ∈ ps)), fun _ => ?_⟩
  refine ⟨hok, _, _, ps, ⟨ps, [], by simpa using trodAll_append (hargs _ (fun _ _ => rfl)) (hres _ _ _), hvars _, by simp, ?_, ?_⟩, fun x hx _ => by simpa using hx⟩
  · intro b off hx
    rw [hb.frozen (hin _ hx)]
    exact hz b off hx
  · intro ha
    exact hn ha
end


theorem exists_list {P : Nat → Ln → Prop} : ∀ (n : Nat), (∀ i, i < n → ∃ t, P i t) → ∃ l : List Ln, l.length = n ∧ ∀ i t, l[i]? = some t → P i t
  | 0, _ => ⟨[], rfl, fun i t h => by simp at h⟩
  | n + 1, h => by
    obtain ⟨l, hl, h1⟩ := exists_list n fun i hi => h i (by omega)
    obtain ⟨t, ht⟩ := h n (by omega)
    refine ⟨l ++ [t], by simp [hl], fun i u hu => ?_⟩
    by_cases hi : i < n
    · rw [List.getElem?_append_left (by omega)] at hu; exact h1 i u hu
    · rw [List.getElem?_append_right (by omega)] at hu
      have h0 : i - l.length = 0 := by
        have := (List.getElem?_eq_some_iff.1 hu).1
        simp at this; omega
      rw [h0] at hu
      have e : i = n := by omega
      have e2 : t = u := by simpa using hu
      rw [e, ← e2]; exact ht
theorem lcells_inv : ∀ {l : List Ln} {j : Nat} {u : Value}, (lcells l)[j]? = some u → ∃ i t, l[i]? = some t ∧ ((j = i * 3 ∧ u = .int .i64 t.1) ∨ (j = i * 3 + 1 ∧ u = .string t.2.1) ∨ (j = i * 3 + 2 ∧ u = .int .i64 t.2.2))
  | [], j, u, h => by simp [lcells] at h
  | a :: l, 0, u, h => ⟨0, a, rfl, .inl ⟨rfl, by
      have : Value.int .i64 a.1 = u := by simpa [lcells] using h
      exact this.symm⟩⟩
  | a :: l, 1, u, h => ⟨0, a, rfl, .inr (.inl ⟨rfl, by
      have : Value.string a.2.1 = u := by simpa [lcells] using h
      exact this.symm⟩)⟩
  | a :: l, 2, u, h => ⟨0, a, rfl, .inr (.inr ⟨rfl, by
      have : Value.int .i64 a.2.2 = u := by simpa [lcells] using h
      exact this.symm⟩)⟩
  | a :: l, j + 3, u, h => by
    have h2 : (lcells l)[j]? = some u := by
      have e : lcells (a :: l) = [.int .i64 a.1, .string a.2.1, .int .i64 a.2.2] ++ lcells l := rfl
      rw [e] at h
      simpa using h
    obtain ⟨i, t, h3, h4⟩ := lcells_inv h2
    refine ⟨i + 1, t, by simpa using h3, ?_⟩
    rcases h4 with ⟨h4, h5⟩ | ⟨h4, h5⟩ | ⟨h4, h5⟩
    · exact .inl ⟨by omega, h5⟩
    · exact .inr (.inl ⟨by omega, h5⟩)
    · exact .inr (.inr ⟨by omega, h5⟩)
set_option maxRecDepth 100000 in
/-- An argument that is a slice of statements. -/
theorem open_lns {H : Type} {enc : TypeId × Value → H} {W : World} {base b0 : Nat} {sp : Nat → Bool} {held : Bool} {v : Value} {d : DataW H} {p : List MemPlace}
    (hval : Value.okWide Tryz.prog W .any b0 22 v) (h : DataW.Trod enc Tryz.prog W base sp held 22 v d p) : ∃ l : List Ln, RL W v l := by
  obtain ⟨A, n, c, rfl⟩ := okWide_slice Tryz.underlying22 hval
  obtain ⟨fuel, hf⟩ := h
  have hcs : (Value.slice A n c).cells.toList = [.slice A n c] := rfl
  rw [hcs] at hf
  rcases Go.Deep.open_slice Tryz.underlying22 hf with ⟨h1, _⟩ | ⟨a, len, cap, m, nn, D, Pl, h1, hb, hl, hm, hmm, hx, hi⟩
  · simp only [List.cons.injEq, Value.slice.injEq, and_true] at h1
    obtain ⟨rfl, rfl, rfl⟩ := h1
    exact ⟨[], none, 0, rfl, by simp, fun h => by simp at h⟩
  · simp only [List.cons.injEq, Value.slice.injEq, and_true] at h1
    obtain ⟨rfl, rfl, rfl⟩ := h1
    have hlm : n ≤ m := by rw [hmm]; split <;> omega
    have c34 : Tryz.prog.cellsOf 34 = 3 := by kernel_rfl
    have c3 : Tryz.prog.cellsOf 3 = 1 := by kernel_rfl
    have c9 : Tryz.prog.cellsOf 9 = 1 := by kernel_rfl
    have hk : ∀ i, i < n → ∃ t : Ln, W.cell? (a.add (i * 3)) = some (.int .i64 t.1) ∧ W.cell? (a.add (i * 3 + 1)) = some (.string t.2.1) ∧ W.cell? (a.add (i * 3 + 2)) = some (.int .i64 t.2.2) := by
      intro i hin
      obtain ⟨cs', h1, h2⟩ := hi i (by omega)
      rw [c34] at h1
      obtain ⟨_, hlen, hcell⟩ := World.cells?_some h1
      obtain ⟨y0, y1, y2, k, _, _, g0, g1, g2⟩ := Go.Deep.trod_struct3 Tryz.underlying34 h2
      match cs', hlen with
      | [v0, v1, v2], _ =>
        simp only [c3, c9, List.drop_zero, List.take_succ_cons, List.take_zero, List.drop_succ_cons] at g0 g1 g2
        obtain ⟨n0, e0, _⟩ := DataW.trod_int Tryz.underlying3 g0
        obtain ⟨s1, e1, _⟩ := DataW.trod_string Tryz.underlying9 g1
        obtain ⟨n2, e2, _⟩ := DataW.trod_int Tryz.underlying3 g2
        simp only [List.cons.injEq, and_true] at e0 e1 e2
        have d0 := hcell 0 (by omega)
        have d1 := hcell 1 (by omega)
        have d2 := hcell 2 (by omega)
        rw [Go.Deep.add_add] at d0 d1 d2
        refine ⟨(n0, s1, n2), ?_, ?_, ?_⟩
        · rw [← e0]; simpa using d0
        · rw [← e1]; simpa using d1
        · rw [← e2]; simpa using d2
    obtain ⟨l, hln, hl2⟩ := exists_list n hk
    refine ⟨l, some a, c, by rw [hln], by unfold maxLen at hm; omega, fun h0 => ?_⟩
    obtain ⟨b, o, spot⟩ := a
    obtain ⟨t0, ht0, _⟩ := hk 0 (by omega)
    have hspot : spot = none := by simpa [Addr.add] using World.cell?_spot ht0
    subst hspot
    refine ⟨b, o, rfl, fun j u hu => ?_⟩
    obtain ⟨i, t, h3, h4⟩ := lcells_inv hu
    obtain ⟨d0, d1, d2⟩ := hl2 i t h3
    rw [Addr.add_lit] at d0 d1 d2
    rcases h4 with ⟨rfl, rfl⟩ | ⟨rfl, rfl⟩ | ⟨rfl, rfl⟩
    · exact d0
    · exact d1
    · exact d2
end Go.Proofs.YtdandmbgdndnjaaGreatDoor
