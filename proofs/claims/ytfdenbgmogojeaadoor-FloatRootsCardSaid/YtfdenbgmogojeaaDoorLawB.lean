/- What the laid table of class names gives: its five cells; and the end of a law's proof where no argument leads to memory. -/
import Derived.Test.YtfdenbgmogojeaaDoorRows
import Derived.Test.YtfdenbgmogojeaaDoorFloX
import Derived.ProofKit
import Derived.LaidMore
import Derived.OpenShut
import Derived.Stop.Joined
namespace Go.Proofs.YtfdenbgmogojeaaDoor
open Go.ChangeShapes Go.WideShapes Go.ChangeAt Go.WideMaps Go.WideElems Go.RowKit

theorem own : ownKnob Tryd.prog.godebug = none := by kernel_rfl
theorem gCN : Tryd.prog.globalNamed "quadrat/float.classNames" = some 0 := by kernel_rfl
theorem tCN : (Tryd.prog.globals[0]?).map (·.type) = some 88 := by kernel_rfl
abbrev laidL {H : Type} : List (String × DataW H) := [("quadrat/float.classNames", Rows.laid_quadrat_float_classNames)]

theorem bytes_eq {s : ByteArray} {l : List UInt8} (h : s.data.toList = l) : s = ⟨l.toArray⟩ := by
  cases s with | mk d => simp at h; subst h; rfl
theorem names_data {H : Type} : (Rows.laid_quadrat_float_classNames : DataW H) = .agg (namesL.map fun n => .lit (.string n.data.toList)) := rfl

theorem of_laid {W : World} (h : laidMetH Tryd.prog laidL W) : CN W := by
  rw [MakeChecks.laidMetH_plain _ _ _ (by kernel_rfl)] at h
  obtain ⟨ps, ⟨g0, t0, cs0, f0, p0, q0, hg0, ht0, hv0, hd0, _, _⟩, _, _⟩ := h
  obtain rfl := Option.some.inj (gCN.symm.trans hg0)
  obtain rfl := Option.some.inj (tCN.symm.trans ht0)
  obtain ⟨xs, m1, rfl, hx1, hlen, hn3, hel⟩ := DataW.trod_array Tryd.underlying88 hd0
  have c9 : Tryd.prog.cellsOf 9 = 1 := by kernel_rfl
  rw [names_data, Prod.mk.injEq, DataW.agg.injEq] at hx1
  intro i n hn
  have hi : i < 5 := by
    have := (List.getElem?_eq_some_iff.1 hn).1
    exact this
  have hx := congrArg (fun l : List (DataW Unit) => l[i]?) hx1.1
  simp only [List.getElem?_map, hn, Option.map_some] at hx
  have he := hel i hi
  cases hxi : xs[i]? with
  | none => rw [hxi] at hx; cases hx
  | some y =>
    rw [hxi] at hx he
    simp only [Option.map_some, Option.some.injEq] at hx
    rw [c9] at he
    obtain ⟨s, e1, e2, _⟩ := DataW.trod_string Tryd.underlying9 he
    rw [e2] at hx
    simp only [DataW.lit.injEq, Lit.string.injEq] at hx
    have hs : n = s := by rw [bytes_eq hx.symm]
    have hc := World.var?_cell hg0 hv0 i
    rw [hc, hs]
    have : (List.take 1 (List.drop (i * 1) cs0.toList))[0]? = some (.string s) := by rw [e1]; rfl
    simpa using this

/-- The door's own heap meets the condition: three closed facts. -/
theorem door_met (os : Os) (args : Array Value) : laidMetH Tryd.prog laidL ((World.doorLaid Tryd.prog 400 os).forCall (fun _ _ => 0) ⟨#[], args, []⟩).memory :=
  laidMetH_of_parts3 (fuel := 8) (laidMet_of_run' 8 (by kernel_rfl) (by kernel_rfl)) (by kernel_rfl) (by kernel_rfl)

section
variable {H : Type} {enc : TypeId × Value → H} {P : Program}
/-- The end of a law's proof where no argument leads to memory, and the call has made memory only. -/
theorem post_plain {f : Func} {s : ChangeSpec} {apart fresh handsOn again : Bool} {W W' : World} {args : Array Value} {v : Value} {ds gs : List (DataW H)}
    (hW : DataW.Whole enc P f.params.toList s.vars apart W args.toList ds gs [])
    (hres : ∀ (b : Nat) (sp : Nat → Bool) (hd : Bool), DataW.TrodAll enc P W' b sp hd f.resultTypes.toList (v.resultList f.resultTypes.size) (s.fn H (ds ++ gs)).results [])
    (hargs : ∀ sp : Nat → Bool, DataW.TrodAll enc P W' 0 sp true f.params.toList args.toList (s.fn H (ds ++ gs)).args [])
    (hvars : ∀ sp : Nat → Bool, DataW.TrodVars enc P W' sp s.vars (s.fn H (ds ++ gs)).vars [])
    (hb : Below W.heap.size W W')
    (hok : ∀ (j : Nat) (t : TypeId) (r : Value), f.resultTypes[j]? = some t → (v.resultList f.resultTypes.size)[j]? = some r → Value.okWide P W' .any 0 t r) :
    s.post enc P f apart fresh handsOn again W args v W' := by
  refine ⟨ds, gs, [], [], [], [], hW, hres _ _ _, hargs _, hvars _, hb.frame _, fun _ => ?_⟩
  exact ⟨hok, _, _, [], ⟨[], [], trodAll_append (hargs _) (hres _ _ _), hvars _, rfl, fun b off hp => by simp at hp, fun _ => List.nodup_nil⟩, fun p hp => by simp at hp⟩
end
end Go.Proofs.YtfdenbgmogojeaaDoor
