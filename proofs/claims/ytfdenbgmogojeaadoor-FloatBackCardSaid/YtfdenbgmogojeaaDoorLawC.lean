/- What the two laid tables give where a law reaches both: the five class names, and the 64 places of math/bits. -/
import Derived.Test.YtfdenbgmogojeaaDoorLawB
import Derived.Test.YtfdenbgmogojeaaDoorFloTz
namespace Go.Proofs.YtfdenbgmogojeaaDoor
open Go.ChangeShapes Go.WideShapes Go.ChangeAt Go.WideMaps Go.WideElems Go.RowKit

theorem gDB : Tryd.prog.globalNamed "math/bits.deBruijn64tab" = some 1 := by kernel_rfl
theorem tDB : (Tryd.prog.globals[1]?).map (·.type) = some 103 := by kernel_rfl
abbrev laidL2 {H : Type} : List (String × DataW H) := [("math/bits.deBruijn64tab", Rows.laid_math_bits_deBruijn64tab), ("quadrat/float.classNames", Rows.laid_quadrat_float_classNames)]
theorem db_data {H : Type} : (Rows.laid_math_bits_deBruijn64tab : DataW H) = .agg (dbL.map fun n => .lit (.int .u8 n)) := rfl

theorem of_laid2 {W : World} (h : laidMetH Tryd.prog laidL2 W) : CN W ∧ DB W := by
  rw [MakeChecks.laidMetH_plain _ _ _ (by kernel_rfl)] at h
  obtain ⟨ps, ⟨g1, t1, cs1, f1, p1, q1, hg1, ht1, hv1, hd1, ⟨g0, t0, cs0, f0, p0, q0, hg0, ht0, hv0, hd0, _, _⟩, _⟩, _, _⟩ := h
  obtain rfl := Option.some.inj (gCN.symm.trans hg0)
  obtain rfl := Option.some.inj (tCN.symm.trans ht0)
  obtain rfl := Option.some.inj (gDB.symm.trans hg1)
  obtain rfl := Option.some.inj (tDB.symm.trans ht1)
  refine ⟨?_, ?_⟩
  · obtain ⟨xs, m1, rfl, hx1, hlen, hn3, hel⟩ := DataW.trod_array Tryd.underlying88 hd0
    have c9 : Tryd.prog.cellsOf 9 = 1 := by kernel_rfl
    rw [names_data, Prod.mk.injEq, DataW.agg.injEq] at hx1
    intro i n hn
    have hi : i < 5 := (List.getElem?_eq_some_iff.1 hn).1
    have hx := congrArg (fun l : List (DataW Unit) => l[i]?) hx1.1
    simp only [List.getElem?_map, hn, Option.map_some] at hx
    have he := hel i hi
    cases hxi : xs[i]? with
    | none => rw [hxi] at hx; cases hx
    | some y =>
      rw [hxi] at hx he
      simp only [Option.map_some, Option.some.injEq] at hx
      rw [c9] at he
      obtain ⟨s, e1, e2, _⟩ := DataW.trod_string Tryd.underlying9 he
      rw [e2] at hx
      simp only [DataW.lit.injEq, Lit.string.injEq] at hx
      have hs : n = s := by rw [bytes_eq hx.symm]
      have hc := World.var?_cell hg0 hv0 i
      rw [hc, hs]
      have : (List.take 1 (List.drop (i * 1) cs0.toList))[0]? = some (.string s) := by rw [e1]; rfl
      simpa using this
  · obtain ⟨xs, m1, rfl, hx1, hlen, hn3, hel⟩ := DataW.trod_array Tryd.underlying103 hd1
    have c5 : Tryd.prog.cellsOf 5 = 1 := by kernel_rfl
    rw [db_data, Prod.mk.injEq, DataW.agg.injEq] at hx1
    intro i n hn
    have hi : i < 64 := (List.getElem?_eq_some_iff.1 hn).1
    have hx := congrArg (fun l : List (DataW Unit) => l[i]?) hx1.1
    simp only [List.getElem?_map, hn, Option.map_some] at hx
    have he := hel i hi
    cases hxi : xs[i]? with
    | none => rw [hxi] at hx; cases hx
    | some y =>
      rw [hxi] at hx he
      simp only [Option.map_some, Option.some.injEq] at hx
      rw [c5] at he
      obtain ⟨s, e1, e2, _⟩ := DataW.trod_int Tryd.underlying5 he
      rw [e2] at hx
      simp only [DataW.lit.injEq, Lit.int.injEq, true_and] at hx
      have hc := World.var?_cell hg1 hv1 i
      rw [hc, hx]
      have : (List.take 1 (List.drop (i * 1) cs1.toList))[0]? = some (.int .u8 s) := by rw [e1]; rfl
      simpa using this

/-- The door's own heap meets the condition. -/
theorem door_met2 (os : Os) (args : Array Value) : laidMetH Tryd.prog laidL2 ((World.doorLaid Tryd.prog 400 os).forCall (fun _ _ => 0) ⟨#[], args, []⟩).memory :=
  laidMetH_of_parts3 (fuel := 8) (laidMet_of_run' 8 (by kernel_rfl) (by kernel_rfl)) (by kernel_rfl) (by kernel_rfl)
end Go.Proofs.YtfdenbgmogojeaaDoor
