/- Contract of bits.Len64: it returns how many binary digits the number has, for every uint64. -/
import Derived.Test.YtfdenbgmogojeaaDoorProg
import Derived.Test.YtfdenbgmogojeaaDoorFloK
namespace Go.Proofs.YtfdenbgmogojeaaDoor

set_option maxHeartbeats 4000000 in
set_option maxRecDepth 100000 in
theorem Len64_c (x : Int) (h0 : 0 ≤ x) (h1 : x ≤ 18446744073709551615) (w : World) :
    Calls Tryd.prog 116 #[.int .u64 x] w fun e w' => e = .returned (.int .i64 (bl x.toNat)) ∧ w = w' := by
  go_enter Tryd.func116, Tryd.ntmps116
  go_wp2
  all_goals (go_ret; refine ⟨congrArg Ending.returned (congrArg (Value.int IntKind.i64) ?_), rfl⟩)
  all_goals first
    | (have s := len_fin x 56 72057594037927936 (x / 4294967296 / 65536 / 256 % 256) h0 rfl (by omega) (by omega) (by omega); omega)
    | (have s := len_fin x 48 281474976710656 (x / 4294967296 / 65536 % 256) h0 rfl (by omega) (by omega) (by omega); omega)
    | (have s := len_fin x 40 1099511627776 (x / 4294967296 / 256 % 256) h0 rfl (by omega) (by omega) (by omega); omega)
    | (have s := len_fin x 32 4294967296 (x / 4294967296 % 256) h0 rfl (by omega) (by omega) (by omega); omega)
    | (have s := len_fin x 24 16777216 (x / 65536 / 256 % 256) h0 rfl (by omega) (by omega) (by omega); omega)
    | (have s := len_fin x 16 65536 (x / 65536 % 256) h0 rfl (by omega) (by omega) (by omega); omega)
    | (have s := len_fin x 8 256 (x / 256 % 256) h0 rfl (by omega) (by omega) (by omega); omega)
    | (have l := len8_bl (x % 256) (by omega) (by omega)
       have := bl_mono_le (x % 256).toNat 8 (by omega)
       rw [show (x % 256).toNat = x.toNat by omega] at l this
       omega)
end Go.Proofs.YtfdenbgmogojeaaDoor
