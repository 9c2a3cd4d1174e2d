/- What the laid tables give: the pairs of signs and the words in dots, as blocks of memory; and that a heap meets the condition. -/
import Derived.Test.YtcafnpfhjiaolaaDoorRows
import Derived.Test.YtcafnpfhjiaolaaDoorTokH
import Derived.ProofKit
import Derived.LaidMore
import Derived.Lay
import Derived.OpenShut
import Derived.Stop.Joined
import Derived.Lib.LaidU8
namespace Go.Proofs.YtcafnpfhjiaolaaDoor
open Go.Shelf Go.ChangeShapes Go.WideShapes Go.ChangeAt Go.WideMaps Go.WideElems Go.RowKit

theorem own : ownKnob Tryd.prog.godebug = none := by kernel_rfl
theorem gPA : Tryd.prog.globalNamed "quadrat/token.pairs" = some 0 := by kernel_rfl
theorem gWO : Tryd.prog.globalNamed "quadrat/token.words" = some 1 := by kernel_rfl
theorem tPA : (Tryd.prog.globals[0]?).map (·.type) = some 65 := by kernel_rfl
theorem tWO : (Tryd.prog.globals[1]?).map (·.type) = some 72 := by kernel_rfl
abbrev laidL : List (String × DataW Unit) := Rows.tokenScansRow.laid

theorem bytes_eq {s : ByteArray} {l : List UInt8} (h : s.data.toList = l) : s = ⟨l.toArray⟩ := by
  cases s with | mk d => simp at h; subst h; rfl
theorem var_heap {W : World} {n : String} {g : Nat} {cs : Array Value} (hg : Tryd.prog.globalNamed n = some g) (h : W.var? Tryd.prog n = some cs) : ∃ t fr, W.heap[g]? = some (.cells cs t fr) := by
  unfold World.var? at h
  rw [hg] at h
  simp only [Option.bind_some] at h
  split at h
  · rename_i c t fr hc
    cases h
    exact ⟨t, fr, hc⟩
  · cases h
theorem pairs_data : (Rows.laid_quadrat_token_pairs : DataW Unit) = .agg (pairsL.map fun p => .lit (.string p)) := rfl
theorem words_data : (Rows.laid_quadrat_token_words : DataW Unit) = .agg (wordsL.map fun t => .agg [.lit (.string t.1.data.toList), .lit (.string t.2)]) := rfl
theorem of_laid {W : World} (h : laidMetH Tryd.prog laidL W) : TB W := by
  rw [MakeChecks.laidMetH_plain _ _ _ (by kernel_rfl)] at h
  obtain ⟨g0, t0, cs0, f0, p0, hg0, ht0, hv0, hd0⟩ := Lib.laidMet.reads (n := "quadrat/token.pairs") (d := Rows.laid_quadrat_token_pairs) h (by simp [laidL, Rows.tokenScansRow])
  obtain ⟨g1, t1, cs1, f1, p1, hg1, ht1, hv1, hd1⟩ := Lib.laidMet.reads (n := "quadrat/token.words") (d := Rows.laid_quadrat_token_words) h (by simp [laidL, Rows.tokenScansRow])
  obtain rfl := Option.some.inj (gPA.symm.trans hg0)
  obtain rfl := Option.some.inj (tPA.symm.trans ht0)
  obtain rfl := Option.some.inj (gWO.symm.trans hg1)
  obtain rfl := Option.some.inj (tWO.symm.trans ht1)
  obtain ⟨t, fr, hh0⟩ := var_heap hg0 hv0
  obtain ⟨t', fr', hh1⟩ := var_heap hg1 hv1
  have e0 : cs0 = pairsA := by
    rw [pairs_data] at hd0
    have hlen : cs0.toList.length = 7 := by
      obtain ⟨_, _, _, _, hl, _⟩ := DataW.trod_array Tryd.underlying65 hd0
      exact hl.trans (by kernel_rfl)
    apply Array.toList_inj.1
    apply List.ext_getElem?
    intro i
    by_cases hi : i < 7
    · obtain ⟨f', d, q, hdi, he⟩ := Lib.array_elem Tryd.underlying65 hd0 i hi
      rw [show Tryd.prog.cellsOf 9 = 1 by kernel_rfl] at he
      obtain ⟨s, e1, e2, _⟩ := DataW.trod_string Tryd.underlying9 he
      rw [List.getElem?_map] at hdi
      obtain ⟨p, hp, hpd⟩ := Option.map_eq_some_iff.1 hdi
      have e3 : d = .lit (.string s.data.toList) := by
        have := congrArg Prod.fst e2
        simpa using this
      rw [e3] at hpd
      simp only [DataW.lit.injEq, Lit.string.injEq] at hpd
      have h1 : cs0.toList[i]? = some (.string s) := by
        have : (List.take 1 (List.drop (i * 1) cs0.toList))[0]? = some (.string s) := by rw [e1]; rfl
        simpa using this
      rw [h1]
      show _ = (pairsL.map fun p => Value.string ⟨p.toArray⟩)[i]?
      rw [List.getElem?_map, hp, bytes_eq hpd.symm]
      rfl
    · rw [List.getElem?_eq_none (by omega), List.getElem?_eq_none (by simp [pairsA, pairsL]; omega)]
  have e1 : cs1 = wordsA := by
    rw [words_data] at hd1
    have hlen : cs1.toList.length = 12 := by
      obtain ⟨_, _, _, _, hl, _⟩ := DataW.trod_array Tryd.underlying72 hd1
      exact hl.trans (by kernel_rfl)
    have hcell : ∀ i (w : Tok), wordsL[i]? = some w → cs1.toList[i * 2]? = some (.string w.1) ∧ cs1.toList[i * 2 + 1]? = some (.string ⟨w.2.toArray⟩) := by
      intro i w hw
      have hi : i < 6 := (List.getElem?_eq_some_iff.1 hw).1
      obtain ⟨f', d, q, hdi, he⟩ := Lib.array_elem Tryd.underlying72 hd1 i hi
      rw [show Tryd.prog.cellsOf 30 = 2 by kernel_rfl] at he
      rw [List.getElem?_map, hw] at hdi
      simp only [Option.map_some, Option.some.injEq] at hdi
      obtain ⟨y0, y1, n, hy, _, h0, h1⟩ := trod_struct2 Tryd.underlying30 he
      rw [show Tryd.prog.cellsOf 9 = 1 by kernel_rfl] at h0 h1
      obtain ⟨s0, a0, b0, _⟩ := DataW.trod_string Tryd.underlying9 h0
      obtain ⟨s1, a1, b1, _⟩ := DataW.trod_string Tryd.underlying9 h1
      rw [← hdi, b0, b1] at hy
      simp only [Prod.mk.injEq, DataW.agg.injEq, List.cons.injEq, DataW.lit.injEq, Lit.string.injEq, and_true] at hy
      obtain ⟨⟨ha, hb⟩, _⟩ := hy
      have c0 := congrArg (fun l : List Value => l[0]?) a0
      have c1 := congrArg (fun l : List Value => l[0]?) a1
      simp at c0 c1
      refine ⟨?_, ?_⟩
      · rw [bytes_eq ha.symm] at c0
        simpa using c0
      · rw [bytes_eq hb.symm] at c1
        simpa using c1
    have hw : ∀ k, k < 12 → cs1.toList[k]? = wordsA.toList[k]? := by
      intro k hk
      obtain ⟨i, r, rfl, hr⟩ : ∃ i r, k = i * 2 + r ∧ (r = 0 ∨ r = 1) := ⟨k / 2, k % 2, by omega, by omega⟩
      have hi : i < 6 := by omega
      have hwi : wordsL[i]? = some (wordsL[i]'hi) := List.getElem?_eq_getElem hi
      have hc := hcell i _ hwi
      rcases hr with rfl | rfl
      · rw [Nat.add_zero, hc.1]
        match i, hi with
        | 0, _ | 1, _ | 2, _ | 3, _ | 4, _ | 5, _ => rfl
      · rw [hc.2]
        match i, hi with
        | 0, _ | 1, _ | 2, _ | 3, _ | 4, _ | 5, _ => rfl
    apply Array.toList_inj.1
    apply List.ext_getElem?
    intro k
    by_cases hk : k < 12
    · exact hw k hk
    · rw [List.getElem?_eq_none (by omega), List.getElem?_eq_none (by simp [wordsA, wordsL]; omega)]
  rw [e0] at hh0
  rw [e1] at hh1
  refine ⟨⟨t, fr, hh0⟩, ⟨t', fr', hh1⟩, ?_⟩
  rcases Nat.lt_or_ge 1 W.heap.size with h | h
  · omega
  · rw [Array.getElem?_eq_none h] at hh1; cases hh1
set_option maxRecDepth 100000 in
theorem door_met (os : Os) (args : Array Value) : laidMetH Tryd.prog laidL ((World.laidAll Tryd.prog os laidL).forCall (fun _ _ => 0) ⟨#[], args, []⟩).memory := by
  rw [MakeChecks.laidMetH_plain _ _ _ (by kernel_rfl)]
  exact laidMet_laidAll _ (by kernel_rfl) (by kernel_rfl)
end Go.Proofs.YtcafnpfhjiaolaaDoor
