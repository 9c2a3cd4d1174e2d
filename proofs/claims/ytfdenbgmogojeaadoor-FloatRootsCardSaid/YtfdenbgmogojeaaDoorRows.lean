/-
  NARROWER THAN 'FOR EVERY INPUT', by the rows' own cells (each row's printed sentence says how): FloatSums: laid · FloatProducts: laid · FloatRoots: laid · FloatCompares: laid · FloatInts: laid · FloatConverts: laid · FloatParts: laid · FloatMakes: laid · FloatNext: laid · FloatBack: laid · FloatModes: laid · FloatSteps: laid.
  DERIVED. THE GIVEN ROWS OF THIS SEAT. 12 by the template 'for every input the law returns true; each argument reads behind the call as it read before'; 0 by the template 'total and deterministic' (their statements: YtfdenbgmogojeaaDoorTotals.lean).
  GIVEN WITH THE SEED: the statements are not yours to turn. If you find one false, say at which input.
  Laid BY PROGRAM, IN A SANDBOX (cutbox-rows.mjs): the forced cells as the released guide's own fill.sh prints them over the translation 544aa8bca73dfaa7… (all of the seat's roots in one cut). By AI agents, Wed Nov 11 2026. No macro, syntax, notation, axiom, sorry.
-/
import Derived.Test.YtfdenbgmogojeaaDoorChecked
import GoSem.Claim
import GoSem.ClaimJoined
import GoSem.ClaimMapViews
import Derived.JoinedTies
import Derived.KernelRfl
namespace Go.Proofs.YtfdenbgmogojeaaDoor
/- THE CELL 'sum', in the pinned program and in every row, IS THE sha256 OF THE DUMP (.gsa) THAT YtfdenbgmogojeaaDoorProg.lean LOADS. Nothing in Lean hashes anything: it is a label: what it is worth is what the hold of that sum in a sandbox is worth. -/
noncomputable def Tryd.pinned : Pinned := { name := "ytfdenbgmogojeaadoor", sum := "544aa8bca73dfaa715620c930beeba14f863d3ea7ab5ba9b0a8ae71c4b063ae8", checked := Tryd.checked }
namespace Rows
def none {H : Type} : Left H := { results := [], args := [] }

/- WHAT THE LISTED PACKAGE-LEVEL VARIABLES READ AS WHEN THE CALL BEGINS. Each datum BY PROGRAM (the guide's laid-datum.mjs) off the statement by which the dump's own 'gosem.cut.vars' lays the variable. In a bare row this is a premise. The card (YtfdenbgmogojeaaDoorCards.lean) ties it to the program's text. -/
def laid_quadrat_float_classNames {H : Type} : DataW H := .agg [.lit (.string [122, 101, 114, 111]), .lit (.string [108, 101, 97, 115, 116]), .lit (.string [110, 111, 114, 109, 97, 108]), .lit (.string [105, 110, 102, 105, 110, 105, 116, 101]), .lit (.string [110, 111, 110, 101])]
def laid_math_bits_deBruijn64tab {H : Type} : DataW H := .agg [.lit (.int .u8 0), .lit (.int .u8 1), .lit (.int .u8 56), .lit (.int .u8 2), .lit (.int .u8 57), .lit (.int .u8 49), .lit (.int .u8 28), .lit (.int .u8 3), .lit (.int .u8 61), .lit (.int .u8 58), .lit (.int .u8 42), .lit (.int .u8 50), .lit (.int .u8 38), .lit (.int .u8 29), .lit (.int .u8 17), .lit (.int .u8 4), .lit (.int .u8 62), .lit (.int .u8 47), .lit (.int .u8 59), .lit (.int .u8 36), .lit (.int .u8 45), .lit (.int .u8 43), .lit (.int .u8 51), .lit (.int .u8 22), .lit (.int .u8 53), .lit (.int .u8 39), .lit (.int .u8 33), .lit (.int .u8 30), .lit (.int .u8 24), .lit (.int .u8 18), .lit (.int .u8 12), .lit (.int .u8 5), .lit (.int .u8 63), .lit (.int .u8 55), .lit (.int .u8 48), .lit (.int .u8 27), .lit (.int .u8 60), .lit (.int .u8 41), .lit (.int .u8 37), .lit (.int .u8 16), .lit (.int .u8 46), .lit (.int .u8 35), .lit (.int .u8 44), .lit (.int .u8 21), .lit (.int .u8 52), .lit (.int .u8 32), .lit (.int .u8 23), .lit (.int .u8 11), .lit (.int .u8 54), .lit (.int .u8 26), .lit (.int .u8 40), .lit (.int .u8 15), .lit (.int .u8 34), .lit (.int .u8 20), .lit (.int .u8 31), .lit (.int .u8 10), .lit (.int .u8 25), .lit (.int .u8 14), .lit (.int .u8 19), .lit (.int .u8 9), .lit (.int .u8 13), .lit (.int .u8 8), .lit (.int .u8 7), .lit (.int .u8 6)]

/-- 'quadratlaw01.FloatSums': WHATEVER THE INPUT: true; the input reads as it did. -/
def floatSumsSpec : ChangeSpec := { name := "floatSums", fn := fun _ => fun
  | [d1, d2] => { results := [.lit (.bool true)], args := [d1, d2] }
  | _ => none }
def floatSumsRow : OpenClaim := { program := "ytfdenbgmogojeaadoor", sum := "544aa8bca73dfaa715620c930beeba14f863d3ea7ab5ba9b0a8ae71c4b063ae8", func := "quadrat/quadratlaw01.FloatSums", spec := "floatSums", inPlace := ["math/bits.Sub64"], unfollowed := true, recurses := true, named := ["quadrat/float.classNames"], apart := false, laid := [("quadrat/float.classNames", laid_quadrat_float_classNames)] }
def FloatSumsSaid : Prop := floatSumsRow.holds Tryd.pinned (OpenSpec.ofChange floatSumsSpec)

/-- ITS FALSE NEIGHBOUR: 'it returns false'. Refute it at one input. -/
def floatSumsWrong : ChangeSpec := { name := "floatSums", fn := fun _ => fun
  | [d1, d2] => { results := [.lit (.bool false)], args := [d1, d2] }
  | _ => none }
def FloatSumsWrongFalsely : Prop := floatSumsRow.holds Tryd.pinned (OpenSpec.ofChange floatSumsWrong)

/-- 'quadratlaw01.FloatProducts': WHATEVER THE INPUT: true; the input reads as it did. -/
def floatProductsSpec : ChangeSpec := { name := "floatProducts", fn := fun _ => fun
  | [d1, d2] => { results := [.lit (.bool true)], args := [d1, d2] }
  | _ => none }
def floatProductsRow : OpenClaim := { program := "ytfdenbgmogojeaadoor", sum := "544aa8bca73dfaa715620c930beeba14f863d3ea7ab5ba9b0a8ae71c4b063ae8", func := "quadrat/quadratlaw01.FloatProducts", spec := "floatProducts", inPlace := ["math/bits.Sub64"], unfollowed := true, recurses := true, named := ["math/bits.divideError", "math/bits.overflowError", "quadrat/float.classNames"], apart := false, laid := [("quadrat/float.classNames", laid_quadrat_float_classNames)] }
def FloatProductsSaid : Prop := floatProductsRow.holds Tryd.pinned (OpenSpec.ofChange floatProductsSpec)

/-- ITS FALSE NEIGHBOUR: 'it returns false'. Refute it at one input. -/
def floatProductsWrong : ChangeSpec := { name := "floatProducts", fn := fun _ => fun
  | [d1, d2] => { results := [.lit (.bool false)], args := [d1, d2] }
  | _ => none }
def FloatProductsWrongFalsely : Prop := floatProductsRow.holds Tryd.pinned (OpenSpec.ofChange floatProductsWrong)

/-- 'quadratlaw01.FloatRoots': WHATEVER THE INPUT: true; the input reads as it did. -/
def floatRootsSpec : ChangeSpec := { name := "floatRoots", fn := fun _ => fun
  | [d1, d2, d3] => { results := [.lit (.bool true)], args := [d1, d2, d3] }
  | _ => none }
def floatRootsRow : OpenClaim := { program := "ytfdenbgmogojeaadoor", sum := "544aa8bca73dfaa715620c930beeba14f863d3ea7ab5ba9b0a8ae71c4b063ae8", func := "quadrat/quadratlaw01.FloatRoots", spec := "floatRoots", inPlace := ["math/bits.Sub64"], unfollowed := true, recurses := true, named := ["quadrat/float.classNames"], apart := false, laid := [("quadrat/float.classNames", laid_quadrat_float_classNames)] }
def FloatRootsSaid : Prop := floatRootsRow.holds Tryd.pinned (OpenSpec.ofChange floatRootsSpec)

/-- ITS FALSE NEIGHBOUR: 'it returns false'. Refute it at one input. -/
def floatRootsWrong : ChangeSpec := { name := "floatRoots", fn := fun _ => fun
  | [d1, d2, d3] => { results := [.lit (.bool false)], args := [d1, d2, d3] }
  | _ => none }
def FloatRootsWrongFalsely : Prop := floatRootsRow.holds Tryd.pinned (OpenSpec.ofChange floatRootsWrong)

/-- 'quadratlaw01.FloatCompares': WHATEVER THE INPUT: true; the input reads as it did. -/
def floatComparesSpec : ChangeSpec := { name := "floatCompares", fn := fun _ => fun
  | [d1, d2, d3] => { results := [.lit (.bool true)], args := [d1, d2, d3] }
  | _ => none }
def floatComparesRow : OpenClaim := { program := "ytfdenbgmogojeaadoor", sum := "544aa8bca73dfaa715620c930beeba14f863d3ea7ab5ba9b0a8ae71c4b063ae8", func := "quadrat/quadratlaw01.FloatCompares", spec := "floatCompares", inPlace := ["math/bits.Sub64"], unfollowed := true, recurses := true, named := ["quadrat/float.classNames"], apart := false, laid := [("quadrat/float.classNames", laid_quadrat_float_classNames)] }
def FloatComparesSaid : Prop := floatComparesRow.holds Tryd.pinned (OpenSpec.ofChange floatComparesSpec)

/-- ITS FALSE NEIGHBOUR: 'it returns false'. Refute it at one input. -/
def floatComparesWrong : ChangeSpec := { name := "floatCompares", fn := fun _ => fun
  | [d1, d2, d3] => { results := [.lit (.bool false)], args := [d1, d2, d3] }
  | _ => none }
def FloatComparesWrongFalsely : Prop := floatComparesRow.holds Tryd.pinned (OpenSpec.ofChange floatComparesWrong)

/-- 'quadratlaw01.FloatInts': WHATEVER THE INPUT: true; the input reads as it did. -/
def floatIntsSpec : ChangeSpec := { name := "floatInts", fn := fun _ => fun
  | [d1, d2, d3] => { results := [.lit (.bool true)], args := [d1, d2, d3] }
  | _ => none }
def floatIntsRow : OpenClaim := { program := "ytfdenbgmogojeaadoor", sum := "544aa8bca73dfaa715620c930beeba14f863d3ea7ab5ba9b0a8ae71c4b063ae8", func := "quadrat/quadratlaw01.FloatInts", spec := "floatInts", inPlace := ["math/bits.Sub64"], unfollowed := true, recurses := true, named := ["quadrat/float.classNames"], apart := false, laid := [("quadrat/float.classNames", laid_quadrat_float_classNames)] }
def FloatIntsSaid : Prop := floatIntsRow.holds Tryd.pinned (OpenSpec.ofChange floatIntsSpec)

/-- ITS FALSE NEIGHBOUR: 'it returns false'. Refute it at one input. -/
def floatIntsWrong : ChangeSpec := { name := "floatInts", fn := fun _ => fun
  | [d1, d2, d3] => { results := [.lit (.bool false)], args := [d1, d2, d3] }
  | _ => none }
def FloatIntsWrongFalsely : Prop := floatIntsRow.holds Tryd.pinned (OpenSpec.ofChange floatIntsWrong)

/-- 'quadratlaw01.FloatConverts': WHATEVER THE INPUT: true; the input reads as it did. -/
def floatConvertsSpec : ChangeSpec := { name := "floatConverts", fn := fun _ => fun
  | [d1, d2, d3] => { results := [.lit (.bool true)], args := [d1, d2, d3] }
  | _ => none }
def floatConvertsRow : OpenClaim := { program := "ytfdenbgmogojeaadoor", sum := "544aa8bca73dfaa715620c930beeba14f863d3ea7ab5ba9b0a8ae71c4b063ae8", func := "quadrat/quadratlaw01.FloatConverts", spec := "floatConverts", inPlace := ["math/bits.Sub64"], unfollowed := true, recurses := true, named := ["quadrat/float.classNames"], apart := false, laid := [("quadrat/float.classNames", laid_quadrat_float_classNames)] }
def FloatConvertsSaid : Prop := floatConvertsRow.holds Tryd.pinned (OpenSpec.ofChange floatConvertsSpec)

/-- ITS FALSE NEIGHBOUR: 'it returns false'. Refute it at one input. -/
def floatConvertsWrong : ChangeSpec := { name := "floatConverts", fn := fun _ => fun
  | [d1, d2, d3] => { results := [.lit (.bool false)], args := [d1, d2, d3] }
  | _ => none }
def FloatConvertsWrongFalsely : Prop := floatConvertsRow.holds Tryd.pinned (OpenSpec.ofChange floatConvertsWrong)

/-- 'quadratlaw01.FloatParts': WHATEVER THE INPUT: true; the input reads as it did. -/
def floatPartsSpec : ChangeSpec := { name := "floatParts", fn := fun _ => fun
  | [d1, d2] => { results := [.lit (.bool true)], args := [d1, d2] }
  | _ => none }
def floatPartsRow : OpenClaim := { program := "ytfdenbgmogojeaadoor", sum := "544aa8bca73dfaa715620c930beeba14f863d3ea7ab5ba9b0a8ae71c4b063ae8", func := "quadrat/quadratlaw01.FloatParts", spec := "floatParts", inPlace := ["math/bits.Sub64"], unfollowed := true, recurses := true, named := ["math/bits.deBruijn64tab", "quadrat/float.classNames"], apart := false, laid := [("math/bits.deBruijn64tab", laid_math_bits_deBruijn64tab), ("quadrat/float.classNames", laid_quadrat_float_classNames)] }
def FloatPartsSaid : Prop := floatPartsRow.holds Tryd.pinned (OpenSpec.ofChange floatPartsSpec)

/-- ITS FALSE NEIGHBOUR: 'it returns false'. Refute it at one input. -/
def floatPartsWrong : ChangeSpec := { name := "floatParts", fn := fun _ => fun
  | [d1, d2] => { results := [.lit (.bool false)], args := [d1, d2] }
  | _ => none }
def FloatPartsWrongFalsely : Prop := floatPartsRow.holds Tryd.pinned (OpenSpec.ofChange floatPartsWrong)

/-- 'quadratlaw01.FloatMakes': WHATEVER THE INPUT: true; the input reads as it did. -/
def floatMakesSpec : ChangeSpec := { name := "floatMakes", fn := fun _ => fun
  | [d1, d2] => { results := [.lit (.bool true)], args := [d1, d2] }
  | _ => none }
def floatMakesRow : OpenClaim := { program := "ytfdenbgmogojeaadoor", sum := "544aa8bca73dfaa715620c930beeba14f863d3ea7ab5ba9b0a8ae71c4b063ae8", func := "quadrat/quadratlaw01.FloatMakes", spec := "floatMakes", inPlace := ["math/bits.Sub64"], unfollowed := true, recurses := true, named := ["quadrat/float.classNames"], apart := false, laid := [("quadrat/float.classNames", laid_quadrat_float_classNames)] }
def FloatMakesSaid : Prop := floatMakesRow.holds Tryd.pinned (OpenSpec.ofChange floatMakesSpec)

/-- ITS FALSE NEIGHBOUR: 'it returns false'. Refute it at one input. -/
def floatMakesWrong : ChangeSpec := { name := "floatMakes", fn := fun _ => fun
  | [d1, d2] => { results := [.lit (.bool false)], args := [d1, d2] }
  | _ => none }
def FloatMakesWrongFalsely : Prop := floatMakesRow.holds Tryd.pinned (OpenSpec.ofChange floatMakesWrong)

/-- 'quadratlaw01.FloatNext': WHATEVER THE INPUT: true; the input reads as it did. -/
def floatNextSpec : ChangeSpec := { name := "floatNext", fn := fun _ => fun
  | [d1, d2] => { results := [.lit (.bool true)], args := [d1, d2] }
  | _ => none }
def floatNextRow : OpenClaim := { program := "ytfdenbgmogojeaadoor", sum := "544aa8bca73dfaa715620c930beeba14f863d3ea7ab5ba9b0a8ae71c4b063ae8", func := "quadrat/quadratlaw01.FloatNext", spec := "floatNext", inPlace := ["math/bits.Sub64"], unfollowed := true, recurses := true, named := ["quadrat/float.classNames"], apart := false, laid := [("quadrat/float.classNames", laid_quadrat_float_classNames)] }
def FloatNextSaid : Prop := floatNextRow.holds Tryd.pinned (OpenSpec.ofChange floatNextSpec)

/-- ITS FALSE NEIGHBOUR: 'it returns false'. Refute it at one input. -/
def floatNextWrong : ChangeSpec := { name := "floatNext", fn := fun _ => fun
  | [d1, d2] => { results := [.lit (.bool false)], args := [d1, d2] }
  | _ => none }
def FloatNextWrongFalsely : Prop := floatNextRow.holds Tryd.pinned (OpenSpec.ofChange floatNextWrong)

/-- 'quadratlaw01.FloatBack': WHATEVER THE INPUT: true; the input reads as it did. -/
def floatBackSpec : ChangeSpec := { name := "floatBack", fn := fun _ => fun
  | [d1, d2, d3] => { results := [.lit (.bool true)], args := [d1, d2, d3] }
  | _ => none }
def floatBackRow : OpenClaim := { program := "ytfdenbgmogojeaadoor", sum := "544aa8bca73dfaa715620c930beeba14f863d3ea7ab5ba9b0a8ae71c4b063ae8", func := "quadrat/quadratlaw01.FloatBack", spec := "floatBack", inPlace := ["math/bits.Sub64"], unfollowed := true, recurses := true, named := ["math/bits.deBruijn64tab", "quadrat/float.classNames"], apart := false, laid := [("math/bits.deBruijn64tab", laid_math_bits_deBruijn64tab), ("quadrat/float.classNames", laid_quadrat_float_classNames)] }
def FloatBackSaid : Prop := floatBackRow.holds Tryd.pinned (OpenSpec.ofChange floatBackSpec)

/-- ITS FALSE NEIGHBOUR: 'it returns false'. Refute it at one input. -/
def floatBackWrong : ChangeSpec := { name := "floatBack", fn := fun _ => fun
  | [d1, d2, d3] => { results := [.lit (.bool false)], args := [d1, d2, d3] }
  | _ => none }
def FloatBackWrongFalsely : Prop := floatBackRow.holds Tryd.pinned (OpenSpec.ofChange floatBackWrong)

/-- 'quadratlaw01.FloatModes': WHATEVER THE INPUT: true; the input reads as it did. -/
def floatModesSpec : ChangeSpec := { name := "floatModes", fn := fun _ => fun
  | [d1, d2, d3] => { results := [.lit (.bool true)], args := [d1, d2, d3] }
  | _ => none }
def floatModesRow : OpenClaim := { program := "ytfdenbgmogojeaadoor", sum := "544aa8bca73dfaa715620c930beeba14f863d3ea7ab5ba9b0a8ae71c4b063ae8", func := "quadrat/quadratlaw01.FloatModes", spec := "floatModes", inPlace := ["math/bits.Sub64"], unfollowed := true, recurses := true, named := ["quadrat/float.classNames", "math/bits.divideError", "math/bits.overflowError"], apart := false, laid := [("quadrat/float.classNames", laid_quadrat_float_classNames)] }
def FloatModesSaid : Prop := floatModesRow.holds Tryd.pinned (OpenSpec.ofChange floatModesSpec)

/-- ITS FALSE NEIGHBOUR: 'it returns false'. Refute it at one input. -/
def floatModesWrong : ChangeSpec := { name := "floatModes", fn := fun _ => fun
  | [d1, d2, d3] => { results := [.lit (.bool false)], args := [d1, d2, d3] }
  | _ => none }
def FloatModesWrongFalsely : Prop := floatModesRow.holds Tryd.pinned (OpenSpec.ofChange floatModesWrong)

/-- 'quadratlaw01.FloatSteps': WHATEVER THE INPUT: true; the input reads as it did. -/
def floatStepsSpec : ChangeSpec := { name := "floatSteps", fn := fun _ => fun
  | [d1, d2] => { results := [.lit (.bool true)], args := [d1, d2] }
  | _ => none }
def floatStepsRow : OpenClaim := { program := "ytfdenbgmogojeaadoor", sum := "544aa8bca73dfaa715620c930beeba14f863d3ea7ab5ba9b0a8ae71c4b063ae8", func := "quadrat/quadratlaw01.FloatSteps", spec := "floatSteps", inPlace := ["math/bits.Sub64"], unfollowed := true, recurses := true, named := ["quadrat/float.classNames"], apart := false, laid := [("quadrat/float.classNames", laid_quadrat_float_classNames)] }
def FloatStepsSaid : Prop := floatStepsRow.holds Tryd.pinned (OpenSpec.ofChange floatStepsSpec)

/-- ITS FALSE NEIGHBOUR: 'it returns false'. Refute it at one input. -/
def floatStepsWrong : ChangeSpec := { name := "floatSteps", fn := fun _ => fun
  | [d1, d2] => { results := [.lit (.bool false)], args := [d1, d2] }
  | _ => none }
def FloatStepsWrongFalsely : Prop := floatStepsRow.holds Tryd.pinned (OpenSpec.ofChange floatStepsWrong)

/- THE SECOND FORM. 'bulk': how many values and letters a reading holds, each counted each time it is reached (what is shared counts as often as it is met; a slice's spare places count too). A statement '..UptoSaid' is the law's where the arguments, and the package variables that the reading takes, are together of bulk at most 1048576: NARROWER than '..Said'. Prove '..Said' where nothing that the law and all that it calls make is longer than what came in: it says more and counts as full. Else prove '..UptoSaid'. A law counts once. -/
mutual
def uptoBulk {H : Type} : DataW H → Nat
  | .lit (.string bytes) => bytes.length + 1
  | .lit _ => 1
  | .nil => 1
  | .ptr d => uptoBulk d + 1
  | .slice elems spare => uptoBulkAll elems + uptoBulkAll spare + 1
  | .agg parts => uptoBulkAll parts + 1
  | .iface _ d => uptoBulk d + 1
  | .map entries => uptoBulkEntries entries + 1
  | .held _ => 1
def uptoBulkAll {H : Type} : List (DataW H) → Nat
  | [] => 0
  | d :: r => uptoBulk d + uptoBulkAll r
def uptoBulkEntries {H : Type} : List (Lit × DataW H) → Nat
  | [] => 0
  | x :: r => uptoBulkEntry x + uptoBulkEntries r
def uptoBulkEntry {H : Type} : Lit × DataW H → Nat
  | (.string bytes, d) => bytes.length + uptoBulk d + 1
  | (_, d) => uptoBulk d + 1
 end
def uptoSmall : (H : Type) → List (DataW H) → Bool := fun _ ds => decide (uptoBulkAll ds ≤ 1048576)
def OpenSpec.upto (s : _root_.Go.ChangeSpec) : _root_.Go.OpenSpec := { _root_.Go.OpenSpec.ofChange s with cond := some uptoSmall }

/-- 'quadratlaw01.FloatSums', WHERE WHAT IT READS IS OF BULK AT MOST 1048576: true; the input reads as it did. -/
def floatSumsUptoRow : OpenClaim := { program := "ytfdenbgmogojeaadoor", sum := "544aa8bca73dfaa715620c930beeba14f863d3ea7ab5ba9b0a8ae71c4b063ae8", func := "quadrat/quadratlaw01.FloatSums", spec := "floatSums", inPlace := ["math/bits.Sub64"], unfollowed := true, recurses := true, named := ["quadrat/float.classNames"], apart := false, laid := [("quadrat/float.classNames", laid_quadrat_float_classNames)], narrowed := true }
def FloatSumsUptoSaid : Prop := floatSumsUptoRow.holds Tryd.pinned (OpenSpec.upto floatSumsSpec)

/-- 'quadratlaw01.FloatProducts', WHERE WHAT IT READS IS OF BULK AT MOST 1048576: true; the input reads as it did. -/
def floatProductsUptoRow : OpenClaim := { program := "ytfdenbgmogojeaadoor", sum := "544aa8bca73dfaa715620c930beeba14f863d3ea7ab5ba9b0a8ae71c4b063ae8", func := "quadrat/quadratlaw01.FloatProducts", spec := "floatProducts", inPlace := ["math/bits.Sub64"], unfollowed := true, recurses := true, named := ["math/bits.divideError", "math/bits.overflowError", "quadrat/float.classNames"], apart := false, laid := [("quadrat/float.classNames", laid_quadrat_float_classNames)], narrowed := true }
def FloatProductsUptoSaid : Prop := floatProductsUptoRow.holds Tryd.pinned (OpenSpec.upto floatProductsSpec)

/-- 'quadratlaw01.FloatRoots', WHERE WHAT IT READS IS OF BULK AT MOST 1048576: true; the input reads as it did. -/
def floatRootsUptoRow : OpenClaim := { program := "ytfdenbgmogojeaadoor", sum := "544aa8bca73dfaa715620c930beeba14f863d3ea7ab5ba9b0a8ae71c4b063ae8", func := "quadrat/quadratlaw01.FloatRoots", spec := "floatRoots", inPlace := ["math/bits.Sub64"], unfollowed := true, recurses := true, named := ["quadrat/float.classNames"], apart := false, laid := [("quadrat/float.classNames", laid_quadrat_float_classNames)], narrowed := true }
def FloatRootsUptoSaid : Prop := floatRootsUptoRow.holds Tryd.pinned (OpenSpec.upto floatRootsSpec)

/-- 'quadratlaw01.FloatCompares', WHERE WHAT IT READS IS OF BULK AT MOST 1048576: true; the input reads as it did. -/
def floatComparesUptoRow : OpenClaim := { program := "ytfdenbgmogojeaadoor", sum := "544aa8bca73dfaa715620c930beeba14f863d3ea7ab5ba9b0a8ae71c4b063ae8", func := "quadrat/quadratlaw01.FloatCompares", spec := "floatCompares", inPlace := ["math/bits.Sub64"], unfollowed := true, recurses := true, named := ["quadrat/float.classNames"], apart := false, laid := [("quadrat/float.classNames", laid_quadrat_float_classNames)], narrowed := true }
def FloatComparesUptoSaid : Prop := floatComparesUptoRow.holds Tryd.pinned (OpenSpec.upto floatComparesSpec)

/-- 'quadratlaw01.FloatInts', WHERE WHAT IT READS IS OF BULK AT MOST 1048576: true; the input reads as it did. -/
def floatIntsUptoRow : OpenClaim := { program := "ytfdenbgmogojeaadoor", sum := "544aa8bca73dfaa715620c930beeba14f863d3ea7ab5ba9b0a8ae71c4b063ae8", func := "quadrat/quadratlaw01.FloatInts", spec := "floatInts", inPlace := ["math/bits.Sub64"], unfollowed := true, recurses := true, named := ["quadrat/float.classNames"], apart := false, laid := [("quadrat/float.classNames", laid_quadrat_float_classNames)], narrowed := true }
def FloatIntsUptoSaid : Prop := floatIntsUptoRow.holds Tryd.pinned (OpenSpec.upto floatIntsSpec)

/-- 'quadratlaw01.FloatConverts', WHERE WHAT IT READS IS OF BULK AT MOST 1048576: true; the input reads as it did. -/
def floatConvertsUptoRow : OpenClaim := { program := "ytfdenbgmogojeaadoor", sum := "544aa8bca73dfaa715620c930beeba14f863d3ea7ab5ba9b0a8ae71c4b063ae8", func := "quadrat/quadratlaw01.FloatConverts", spec := "floatConverts", inPlace := ["math/bits.Sub64"], unfollowed := true, recurses := true, named := ["quadrat/float.classNames"], apart := false, laid := [("quadrat/float.classNames", laid_quadrat_float_classNames)], narrowed := true }
def FloatConvertsUptoSaid : Prop := floatConvertsUptoRow.holds Tryd.pinned (OpenSpec.upto floatConvertsSpec)

/-- 'quadratlaw01.FloatParts', WHERE WHAT IT READS IS OF BULK AT MOST 1048576: true; the input reads as it did. -/
def floatPartsUptoRow : OpenClaim := { program := "ytfdenbgmogojeaadoor", sum := "544aa8bca73dfaa715620c930beeba14f863d3ea7ab5ba9b0a8ae71c4b063ae8", func := "quadrat/quadratlaw01.FloatParts", spec := "floatParts", inPlace := ["math/bits.Sub64"], unfollowed := true, recurses := true, named := ["math/bits.deBruijn64tab", "quadrat/float.classNames"], apart := false, laid := [("math/bits.deBruijn64tab", laid_math_bits_deBruijn64tab), ("quadrat/float.classNames", laid_quadrat_float_classNames)], narrowed := true }
def FloatPartsUptoSaid : Prop := floatPartsUptoRow.holds Tryd.pinned (OpenSpec.upto floatPartsSpec)

/-- 'quadratlaw01.FloatMakes', WHERE WHAT IT READS IS OF BULK AT MOST 1048576: true; the input reads as it did. -/
def floatMakesUptoRow : OpenClaim := { program := "ytfdenbgmogojeaadoor", sum := "544aa8bca73dfaa715620c930beeba14f863d3ea7ab5ba9b0a8ae71c4b063ae8", func := "quadrat/quadratlaw01.FloatMakes", spec := "floatMakes", inPlace := ["math/bits.Sub64"], unfollowed := true, recurses := true, named := ["quadrat/float.classNames"], apart := false, laid := [("quadrat/float.classNames", laid_quadrat_float_classNames)], narrowed := true }
def FloatMakesUptoSaid : Prop := floatMakesUptoRow.holds Tryd.pinned (OpenSpec.upto floatMakesSpec)

/-- 'quadratlaw01.FloatNext', WHERE WHAT IT READS IS OF BULK AT MOST 1048576: true; the input reads as it did. -/
def floatNextUptoRow : OpenClaim := { program := "ytfdenbgmogojeaadoor", sum := "544aa8bca73dfaa715620c930beeba14f863d3ea7ab5ba9b0a8ae71c4b063ae8", func := "quadrat/quadratlaw01.FloatNext", spec := "floatNext", inPlace := ["math/bits.Sub64"], unfollowed := true, recurses := true, named := ["quadrat/float.classNames"], apart := false, laid := [("quadrat/float.classNames", laid_quadrat_float_classNames)], narrowed := true }
def FloatNextUptoSaid : Prop := floatNextUptoRow.holds Tryd.pinned (OpenSpec.upto floatNextSpec)

/-- 'quadratlaw01.FloatBack', WHERE WHAT IT READS IS OF BULK AT MOST 1048576: true; the input reads as it did. -/
def floatBackUptoRow : OpenClaim := { program := "ytfdenbgmogojeaadoor", sum := "544aa8bca73dfaa715620c930beeba14f863d3ea7ab5ba9b0a8ae71c4b063ae8", func := "quadrat/quadratlaw01.FloatBack", spec := "floatBack", inPlace := ["math/bits.Sub64"], unfollowed := true, recurses := true, named := ["math/bits.deBruijn64tab", "quadrat/float.classNames"], apart := false, laid := [("math/bits.deBruijn64tab", laid_math_bits_deBruijn64tab), ("quadrat/float.classNames", laid_quadrat_float_classNames)], narrowed := true }
def FloatBackUptoSaid : Prop := floatBackUptoRow.holds Tryd.pinned (OpenSpec.upto floatBackSpec)

/-- 'quadratlaw01.FloatModes', WHERE WHAT IT READS IS OF BULK AT MOST 1048576: true; the input reads as it did. -/
def floatModesUptoRow : OpenClaim := { program := "ytfdenbgmogojeaadoor", sum := "544aa8bca73dfaa715620c930beeba14f863d3ea7ab5ba9b0a8ae71c4b063ae8", func := "quadrat/quadratlaw01.FloatModes", spec := "floatModes", inPlace := ["math/bits.Sub64"], unfollowed := true, recurses := true, named := ["quadrat/float.classNames", "math/bits.divideError", "math/bits.overflowError"], apart := false, laid := [("quadrat/float.classNames", laid_quadrat_float_classNames)], narrowed := true }
def FloatModesUptoSaid : Prop := floatModesUptoRow.holds Tryd.pinned (OpenSpec.upto floatModesSpec)

/-- 'quadratlaw01.FloatSteps', WHERE WHAT IT READS IS OF BULK AT MOST 1048576: true; the input reads as it did. -/
def floatStepsUptoRow : OpenClaim := { program := "ytfdenbgmogojeaadoor", sum := "544aa8bca73dfaa715620c930beeba14f863d3ea7ab5ba9b0a8ae71c4b063ae8", func := "quadrat/quadratlaw01.FloatSteps", spec := "floatSteps", inPlace := ["math/bits.Sub64"], unfollowed := true, recurses := true, named := ["quadrat/float.classNames"], apart := false, laid := [("quadrat/float.classNames", laid_quadrat_float_classNames)], narrowed := true }
def FloatStepsUptoSaid : Prop := floatStepsUptoRow.holds Tryd.pinned (OpenSpec.upto floatStepsSpec)

end Rows
end Go.Proofs.YtfdenbgmogojeaaDoor
