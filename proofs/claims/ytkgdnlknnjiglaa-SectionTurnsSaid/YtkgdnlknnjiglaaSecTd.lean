/- What Transpose gives, as a function of the descriptor. -/
import Derived.Test.YtkgdnlknnjiglaaSecG
namespace Go.Proofs.Ytkgdnlknnjiglaa
open Go.RowKit

/-- What Transpose gives. -/
def trD (d : DS) : DS := if vldB d = true ∧ d.ex.length = 2 then ⟨d.b, d.ex.reverse, d.st.reverse⟩ else ⟨0, [], []⟩
def trE (d : DS) : Int := if vldB d = true then if d.ex.length = 2 then 0 else 30 else 2
theorem trD_no {d : DS} (h : vldB d = false) : trD d = ⟨0, [], []⟩ ∧ trE d = 2 := by unfold trD trE; rw [h]; exact ⟨rfl, rfl⟩
theorem trD_rank {d : DS} (h : vldB d = true) (hn : d.ex.length ≠ 2) : trD d = ⟨0, [], []⟩ ∧ trE d = 30 := by unfold trD trE; rw [h]; simp [hn]
theorem trD_yes {d : DS} (h : vldB d = true) (hn : d.ex.length = 2) : trD d = ⟨d.b, d.ex.reverse, d.st.reverse⟩ ∧ trE d = 0 := by unfold trD trE; rw [h]; simp [hn]
end Go.Proofs.Ytkgdnlknnjiglaa
