/- The end of a law's proof where arguments lead to memory; an argument that is a slice of tokens. -/
import Derived.Test.YtcafnpfhjiaolaaDoorLawC
import Derived.Test.YtcafnpfhjiaolaaDoorTokT
import Derived.Carry
import Derived.Deep.SlicePairs
namespace Go.Proofs.YtcafnpfhjiaolaaDoor
open Go.ChangeShapes Go.WideShapes Go.ChangeAt Go.WideMaps Go.WideElems Go.RowKit

section
variable {H : Type} {enc : TypeId × Value → H} {P : Program}
/-- The same where arguments lead to memory (at the places ps), and no variable is named. -/
theorem post_mem {f : Func} {s : ChangeSpec} {apart fresh handsOn again : Bool} {W W' : World} {args : Array Value} {v : Value} {ds gs : List (DataW H)} {ps : List MemPlace}
    (hW : DataW.Whole enc P f.params.toList s.vars apart W args.toList ds gs ps)
    (hres : ∀ (b : Nat) (sp : Nat → Bool) (hd : Bool), DataW.TrodAll enc P W' b sp hd f.resultTypes.toList (v.resultList f.resultTypes.size) (s.fn H (ds ++ gs)).results [])
    (hargs : ∀ sp : Nat → Bool, (∀ x ∈ ps, sp x.block = true) → DataW.TrodAll enc P W' 0 sp true f.params.toList args.toList (s.fn H (ds ++ gs)).args ps)
    (hvars : ∀ sp : Nat → Bool, DataW.TrodVars enc P W' sp s.vars (s.fn H (ds ++ gs)).vars [])
    (hb : Below W.heap.size W W')
    (hok : ∀ (j : Nat) (t : TypeId) (r : Value), f.resultTypes[j]? = some t → (v.resultList f.resultTypes.size)[j]? = some r → Value.okWide P W' .any 0 t r) :
    s.post enc P f apart fresh handsOn again W args v W' := by
  have hin : ∀ x ∈ ps, x.block < W.heap.size := fun x hx => hW.lt x hx
  have hW2 := hW
  obtain ⟨_, _, _, _, _, hz, hn⟩ := hW2
  refine ⟨ds, gs, ps, [], ps, [], hW, hres _ _ _, hargs _ (fun x hx => by simpa using hin x hx), hvars _, World.keptBut_mono (fun x hx => ⟨hx, by simp [hx]⟩) (hb.frame (· ∈ ps)), fun _ => ?_⟩
  refine ⟨hok, _, _, ps, ⟨ps, [], by simpa using trodAll_append (hargs _ (fun _ _ => rfl)) (hres _ _ _), hvars _, by simp, ?_, ?_⟩, fun x hx _ => by simpa using hx⟩
  · intro b off hx
    rw [hb.frozen (hin _ hx)]
    exact hz b off hx
  · intro ha
    exact hn ha
end

theorem exists_list {P : Nat → Tok → Prop} : ∀ (n : Nat), (∀ i, i < n → ∃ t, P i t) → ∃ l : List Tok, l.length = n ∧ ∀ i t, l[i]? = some t → P i t
  | 0, _ => ⟨[], rfl, fun i t h => by simp at h⟩
  | n + 1, h => by
    obtain ⟨l, hl, h1⟩ := exists_list n fun i hi => h i (by omega)
    obtain ⟨t, ht⟩ := h n (by omega)
    refine ⟨l ++ [t], by simp [hl], fun i u hu => ?_⟩
    by_cases hi : i < n
    · rw [List.getElem?_append_left (by omega)] at hu; exact h1 i u hu
    · rw [List.getElem?_append_right (by omega)] at hu
      have h0 : i - l.length = 0 := by
        have := (List.getElem?_eq_some_iff.1 hu).1
        simp at this; omega
      rw [h0] at hu
      have e : i = n := by omega
      have e2 : t = u := by simpa using hu
      rw [e, ← e2]; exact ht
theorem tcells_inv : ∀ {l : List Tok} {j : Nat} {u : Value}, (tcells l)[j]? = some u → ∃ i t, l[i]? = some t ∧ ((j = i * 2 ∧ u = .string t.1) ∨ (j = i * 2 + 1 ∧ u = .string ⟨t.2.toArray⟩))
  | [], j, u, h => by simp [tcells] at h
  | a :: l, 0, u, h => ⟨0, a, rfl, .inl ⟨rfl, by
      have : Value.string a.1 = u := by simpa [tcells] using h
      exact this.symm⟩⟩
  | a :: l, 1, u, h => ⟨0, a, rfl, .inr ⟨rfl, by
      have : Value.string ⟨a.2.toArray⟩ = u := by simpa [tcells] using h
      exact this.symm⟩⟩
  | a :: l, j + 2, u, h => by
    have h2 : (tcells l)[j]? = some u := by
      have e : tcells (a :: l) = [.string a.1, .string ⟨a.2.toArray⟩] ++ tcells l := rfl
      rw [e] at h
      simpa using h
    obtain ⟨i, t, h3, h4⟩ := tcells_inv h2
    exact ⟨i + 1, t, by simpa using h3, by rcases h4 with ⟨h4, h5⟩ | ⟨h4, h5⟩; exact .inl ⟨by omega, h5⟩; exact .inr ⟨by omega, h5⟩⟩
/-- An argument that is a slice of tokens. -/
theorem open_toks {H : Type} {enc : TypeId × Value → H} {W : World} {base b0 : Nat} {sp : Nat → Bool} {held : Bool} {v : Value} {d : DataW H} {p : List MemPlace}
    (hval : Value.okWide Tryd.prog W .any b0 23 v) (h : DataW.Trod enc Tryd.prog W base sp held 23 v d p) : ∃ l : List Tok, RT W v l := by
  obtain ⟨A, n, c, rfl⟩ := okWide_slice Tryd.underlying23 hval
  obtain ⟨fuel, hf⟩ := h
  have hcs : (Value.slice A n c).cells.toList = [.slice A n c] := rfl
  rw [hcs] at hf
  rcases Go.Deep.open_slice_pairs Tryd.underlying23 Tryd.underlying30 (by kernel_rfl) rfl rfl (by kernel_rfl) (by kernel_rfl) hf with ⟨h1, _⟩ | ⟨a, len, cap, m, nn, V0, V1, D0, D1, P0, P1, h1, hb, hl, hm, hmm, hx, hi⟩
  · simp only [List.cons.injEq, Value.slice.injEq, and_true] at h1
    obtain ⟨rfl, rfl, rfl⟩ := h1
    exact ⟨[], none, 0, rfl, by simp, fun h => by simp at h⟩
  · simp only [List.cons.injEq, Value.slice.injEq, and_true] at h1
    obtain ⟨rfl, rfl, rfl⟩ := h1
    have hlm : n ≤ m := by rw [hmm]; split <;> omega
    have hk : ∀ i, i < n → ∃ t : Tok, W.cell? (a.add (i * 2)) = some (.string t.1) ∧ W.cell? (a.add (i * 2 + 1)) = some (.string ⟨t.2.toArray⟩) := by
      intro i hin
      obtain ⟨c0, c1, t0, t1⟩ := hi i (by omega)
      obtain ⟨s0, e0, _⟩ := DataW.trod_string Tryd.underlying9 t0
      obtain ⟨s1, e1, _⟩ := DataW.trod_string Tryd.underlying9 t1
      simp only [List.cons.injEq, and_true] at e0 e1
      rw [e0] at c0; rw [e1] at c1
      exact ⟨(s0, s1.data.toList), c0, c1⟩
    obtain ⟨l, hln, hl2⟩ := exists_list n hk
    refine ⟨l, some a, c, by rw [hln], by unfold maxLen at hm; omega, fun h0 => ?_⟩
    obtain ⟨b, o, spot⟩ := a
    obtain ⟨t0, ht0, _⟩ := hk 0 (by omega)
    have hspot : spot = none := by simpa [Addr.add] using World.cell?_spot ht0
    subst hspot
    refine ⟨b, o, rfl, fun j u hu => ?_⟩
    obtain ⟨i, t, h3, h4⟩ := tcells_inv hu
    obtain ⟨d0, d1⟩ := hl2 i t h3
    rw [Addr.add_lit] at d0 d1
    rcases h4 with ⟨rfl, rfl⟩ | ⟨rfl, rfl⟩
    · exact d0
    · exact d1
end Go.Proofs.YtcafnpfhjiaolaaDoor
