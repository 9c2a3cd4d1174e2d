/- A map from numbers to bools of the call's own, as the set of what was stored in it. -/
import Derived.Test.YtkgdnlknnjiglaaSecF
import Derived.Maps.Own
import Derived.Maps.Views
import Derived.Carry
import Derived.OpenShut
namespace Go.Proofs.Ytkgdnlknnjiglaa
open Go.RowKit Go.Maps

/-- Block b is a map that holds true at the numbers of a list, and nothing else. -/
def MS (w : World) (b n : Nat) (S : List Int) : Prop :=
  ∃ D : DataW Unit, w.ownsMap Try.prog 3 (plainElem Try.prog 4) b n D ∧ IsMap D ∧ ∀ x : Int, D.atKey (.int .i64 x) (.lit (.bool false)) = .lit (.bool (decide (x ∈ S)))
theorem wf_of_fit {x : Int} (h : Fit x) : (Lit.int .i64 x).wf = true := by
  unfold Fit at h
  simp [Lit.wf, IntKind.min, IntKind.max, IntKind.signed, IntKind.bits]
  omega
theorem ms_made (w : World) : MS (w.alloc (.map #[] 0)) w.heap.size 0 [] :=
  ⟨.map [], World.ownsMap_made w _ _ _, ⟨[], rfl⟩, fun x => by simp [DataW.atKey]⟩
theorem ms_alloc {w : World} {b n : Nat} {S : List Int} (h : MS w b n S) (o : Obj) : MS (w.alloc o) b n S := by
  obtain ⟨D, h1, h2, h3⟩ := h; exact ⟨D, h1.alloc o, h2, h3⟩
theorem ms_keep {w w' : World} {b n : Nat} {S : List Int} (h : MS w b n S) (hb : Below w.heap.size w w') : MS w' b n S := by
  obtain ⟨D, h1, h2, h3⟩ := h
  exact ⟨D, h1.kept ⟨hb.os, hb.tape, hb.output, hb.size, fun k hk _ => hb.block k hk⟩ (by simp : some b ≠ (none : Option Nat)), h2, h3⟩
theorem ms_look {w : World} {b n : Nat} {S : List Int} (h : MS w b n S) {x : Int} (hx : Fit x) :
    (Instr.lookup 72 (.map (some b)) (.int .i64 x) false).run Try.prog w = .ok (.bool (decide (x ∈ S))) w := by
  obtain ⟨D, h1, h2, h3⟩ := h
  obtain ⟨v, ps, hr, hv⟩ := h1.lookup (int_keyed Try.underlying3) Try.underlying72 (show (zeroValue 4).run Try.prog w = .ok (.bool false) w by kernel_rfl) (plainElem_bool Try.underlying4 false) (keyOf_int_mk Try.underlying3 (wf_of_fit hx))
  rw [h3] at hv
  rw [hr]
  unfold plainElem at hv
  rw [Try.underlying4] at hv
  cases v <;> simp at hv
  rw [hv.1]
theorem ms_put {w : World} {b n : Nat} {S : List Int} (h : MS w b n S) {x : Int} (hx : Fit x) (hn : n < 1000000) :
    ∃ w', (Instr.mapUpdate 72 (.map (some b)) (.int .i64 x) (.bool true)).run Try.prog w = .ok () w' ∧ MS w' b (n + 1) (x :: S) ∧ w.grownBy w' (some b) := by
  obtain ⟨D, h1, h2, h3⟩ := h
  obtain ⟨w', hr, ho, hg⟩ := h1.update (int_keyed Try.underlying3) Try.underlying72 (by unfold maxLen; omega) (keyOf_int_mk Try.underlying3 (wf_of_fit hx)) (plainElem_bool Try.underlying4 true)
  refine ⟨w', hr, ⟨_, ho, ?_, fun y => ?_⟩, hg⟩
  · exact h2.put _ _
  · by_cases hy : y = x
    · subst hy
      rw [atKey_put_same h2 (by trivial)]
      simp
    · rw [atKey_put_other (by simp; exact hy), h3]
      simp [hy]
theorem run_makeMapN (n : Nat) (w : World) : (Instr.makeMap 72 (some (.int .i64 (n : Int)))).run Try.prog w = .ok (.map (some w.heap.size)) (w.alloc (.map #[] 0)) := by
  kernel_rfl
end Go.Proofs.Ytkgdnlknnjiglaa
