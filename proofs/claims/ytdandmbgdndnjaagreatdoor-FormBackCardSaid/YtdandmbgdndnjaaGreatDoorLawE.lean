/- The table of powers of ten is what the laid list says. -/
import Derived.Test.YtdandmbgdndnjaaGreatDoorLawB
import Derived.Test.YtdandmbgdndnjaaGreatDoorWrtD
import Derived.Lib.LaidU8
import Derived.Lib.LaidTab
namespace Go.Proofs.YtdandmbgdndnjaaGreatDoor
open Go.ChangeShapes Go.WideShapes Go.ChangeAt Go.WideMaps Go.WideElems Go.RowKit

theorem tPow : (Tryz.prog.globals[3]?).map (·.type) = some 129 := by kernel_rfl
theorem pow_data : (Rows.laid_internal_strconv_uint64pow10 : DataW Unit) = Lib.tabData .u64 Lib.pow10Tab := rfl
theorem tw_of_laid {W : World} (h : laidMetH Tryz.prog laidL W) : TW W := by
  rw [MakeChecks.laidMetH_plain _ _ _ (by kernel_rfl)] at h
  obtain ⟨g0, t0, cs0, f0, p0, hg0, ht0, hv0, hd0⟩ := Lib.laidMet.reads (n := "internal/strconv.uint64pow10") (d := Rows.laid_internal_strconv_uint64pow10) h (by simp [laidL, Rows.formQuotesRow])
  obtain rfl := Option.some.inj (gPow.symm.trans hg0)
  obtain rfl := Option.some.inj (tPow.symm.trans ht0)
  rw [pow_data] at hd0
  have hc := Lib.cells_of_tab Tryz.underlying129 (by kernel_rfl) (by kernel_rfl) (by kernel_rfl) hd0
  unfold TW Lib.TabIs
  rw [hv0, ← hc]
end Go.Proofs.YtdandmbgdndnjaaGreatDoor
