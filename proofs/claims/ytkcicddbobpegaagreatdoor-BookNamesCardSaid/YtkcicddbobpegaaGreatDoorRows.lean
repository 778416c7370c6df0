/-
  NARROWER THAN 'FOR EVERY INPUT', by the rows' own cells (each row's printed sentence says how): KindsNothings: laid · KindsApart: laid · KindsKeeps: laid · KindsOnce: laid · KindsHand: laid · BookNames: laid · BookLimits: laid · BookTypes: laid · BookParts: laid · BookWords: laid · BookCalls: laid.
  DERIVED. THE GIVEN ROWS OF THIS SEAT. 11 by the template 'for every input the law returns true; each argument reads behind the call as it read before'; 0 by the template 'total and deterministic' (their statements: YtkcicddbobpegaaGreatDoorTotals.lean).
  GIVEN WITH THE SEED: the statements are not yours to turn. If you find one false, say at which input.
  Laid BY PROGRAM, IN A SANDBOX (cutbox-rows.mjs): the forced cells as the released guide's own fill.sh prints them over the translation 846767688637e179… (all of the seat's roots in one cut). By AI agents, Wed Nov 11 2026. No macro, syntax, notation, axiom, sorry.
-/
import Derived.Test.YtkcicddbobpegaaGreatDoorChecked
import GoSem.PinnedTables
import GoSem.Claim
import GoSem.ClaimJoined
import GoSem.ClaimMapViews
import Derived.JoinedTies
import Derived.KernelRfl
namespace Go.Proofs.YtkcicddbobpegaaGreatDoor
/- THE CELL 'sum', in the pinned program and in every row, IS THE sha256 OF THE DUMP (.gsa) THAT YtkcicddbobpegaaGreatDoorProg.lean LOADS. Nothing in Lean hashes anything: it is a label: what it is worth is what the hold of that sum in a sandbox is worth. -/
noncomputable def Tryz.pinned : Pinned := { name := "ytkcicddbobpegaagreatdoor", sum := "846767688637e179e1df8246cc904cee04b0980c8531ef299a4dd8c6a9c12215", checked := Tryz.checked }
namespace Rows
def none {H : Type} : Left H := { results := [], args := [] }

/- WHAT THE LISTED PACKAGE-LEVEL VARIABLES READ AS WHEN THE CALL BEGINS. Each datum BY PROGRAM (the guide's laid-datum.mjs) off the statement by which the dump's own 'gosem.cut.vars' lays the variable. In a bare row this is a premise. The card (YtkcicddbobpegaaGreatDoorCards.lean) ties it to the program's text. -/
def laid_errata_kinds_rows {H : Type} : DataW H := .agg [.agg [.lit (.int .u8 0), .lit (.bool false), .lit (.int .i64 0)], .agg [.lit (.int .u8 2), .lit (.bool false), .lit (.int .i64 0)], .agg [.lit (.int .u8 1), .lit (.bool false), .lit (.int .i64 0)], .agg [.lit (.int .u8 8), .lit (.bool false), .lit (.int .i64 0)], .agg [.lit (.int .u8 24), .lit (.bool false), .lit (.int .i64 0)], .agg [.lit (.int .u8 1), .lit (.bool false), .lit (.int .i64 0)], .agg [.lit (.int .u8 130), .lit (.bool true), .lit (.int .i64 0)], .agg [.lit (.int .u8 33), .lit (.bool true), .lit (.int .i64 0)], .agg [.lit (.int .u8 0), .lit (.bool true), .lit (.int .i64 0)], .agg [.lit (.int .u8 1), .lit (.bool true), .lit (.int .i64 0)], .agg [.lit (.int .u8 33), .lit (.bool true), .lit (.int .i64 0)], .agg [.lit (.int .u8 3), .lit (.bool false), .lit (.int .i64 0)], .agg [.lit (.int .u8 129), .lit (.bool false), .lit (.int .i64 0)], .agg [.lit (.int .u8 1), .lit (.bool false), .lit (.int .i64 1)], .agg [.lit (.int .u8 1), .lit (.bool true), .lit (.int .i64 1)], .agg [.lit (.int .u8 1), .lit (.bool false), .lit (.int .i64 1)], .agg [.lit (.int .u8 0), .lit (.bool true), .lit (.int .i64 64)], .agg [.lit (.int .u8 32), .lit (.bool false), .lit (.int .i64 1)], .agg [.lit (.int .u8 2), .lit (.bool false), .lit (.int .i64 1)], .agg [.lit (.int .u8 10), .lit (.bool false), .lit (.int .i64 0)], .agg [.lit (.int .u8 0), .lit (.bool false), .lit (.int .i64 1)], .agg [.lit (.int .u8 33), .lit (.bool true), .lit (.int .i64 0)], .agg [.lit (.int .u8 3), .lit (.bool true), .lit (.int .i64 0)], .agg [.lit (.int .u8 0), .lit (.bool true), .lit (.int .i64 0)], .agg [.lit (.int .u8 33), .lit (.bool true), .lit (.int .i64 0)], .agg [.lit (.int .u8 3), .lit (.bool false), .lit (.int .i64 1)], .agg [.lit (.int .u8 193), .lit (.bool true), .lit (.int .i64 64)]]
def laid_math_bits_deBruijn32tab {H : Type} : DataW H := .agg [.lit (.int .u8 0), .lit (.int .u8 1), .lit (.int .u8 28), .lit (.int .u8 2), .lit (.int .u8 29), .lit (.int .u8 14), .lit (.int .u8 24), .lit (.int .u8 3), .lit (.int .u8 30), .lit (.int .u8 22), .lit (.int .u8 20), .lit (.int .u8 15), .lit (.int .u8 25), .lit (.int .u8 17), .lit (.int .u8 4), .lit (.int .u8 8), .lit (.int .u8 31), .lit (.int .u8 27), .lit (.int .u8 13), .lit (.int .u8 23), .lit (.int .u8 21), .lit (.int .u8 19), .lit (.int .u8 16), .lit (.int .u8 7), .lit (.int .u8 26), .lit (.int .u8 12), .lit (.int .u8 18), .lit (.int .u8 6), .lit (.int .u8 11), .lit (.int .u8 5), .lit (.int .u8 10), .lit (.int .u8 9)]
def laid_math_bits_deBruijn64tab {H : Type} : DataW H := .agg [.lit (.int .u8 0), .lit (.int .u8 1), .lit (.int .u8 56), .lit (.int .u8 2), .lit (.int .u8 57), .lit (.int .u8 49), .lit (.int .u8 28), .lit (.int .u8 3), .lit (.int .u8 61), .lit (.int .u8 58), .lit (.int .u8 42), .lit (.int .u8 50), .lit (.int .u8 38), .lit (.int .u8 29), .lit (.int .u8 17), .lit (.int .u8 4), .lit (.int .u8 62), .lit (.int .u8 47), .lit (.int .u8 59), .lit (.int .u8 36), .lit (.int .u8 45), .lit (.int .u8 43), .lit (.int .u8 51), .lit (.int .u8 22), .lit (.int .u8 53), .lit (.int .u8 39), .lit (.int .u8 33), .lit (.int .u8 30), .lit (.int .u8 24), .lit (.int .u8 18), .lit (.int .u8 12), .lit (.int .u8 5), .lit (.int .u8 63), .lit (.int .u8 55), .lit (.int .u8 48), .lit (.int .u8 27), .lit (.int .u8 60), .lit (.int .u8 41), .lit (.int .u8 37), .lit (.int .u8 16), .lit (.int .u8 46), .lit (.int .u8 35), .lit (.int .u8 44), .lit (.int .u8 21), .lit (.int .u8 52), .lit (.int .u8 32), .lit (.int .u8 23), .lit (.int .u8 11), .lit (.int .u8 54), .lit (.int .u8 26), .lit (.int .u8 40), .lit (.int .u8 15), .lit (.int .u8 34), .lit (.int .u8 20), .lit (.int .u8 31), .lit (.int .u8 10), .lit (.int .u8 25), .lit (.int .u8 14), .lit (.int .u8 19), .lit (.int .u8 9), .lit (.int .u8 13), .lit (.int .u8 8), .lit (.int .u8 7), .lit (.int .u8 6)]
def laid_internal_strconv_optimize {H : Type} : DataW H := .lit (.bool true)
def laid_internal_strconv_uint64pow10 {H : Type} : DataW H := .agg [.lit (.int .u64 1), .lit (.int .u64 10), .lit (.int .u64 100), .lit (.int .u64 1000), .lit (.int .u64 10000), .lit (.int .u64 100000), .lit (.int .u64 1000000), .lit (.int .u64 10000000), .lit (.int .u64 100000000), .lit (.int .u64 1000000000), .lit (.int .u64 10000000000), .lit (.int .u64 100000000000), .lit (.int .u64 1000000000000), .lit (.int .u64 10000000000000), .lit (.int .u64 100000000000000), .lit (.int .u64 1000000000000000), .lit (.int .u64 10000000000000000), .lit (.int .u64 100000000000000000), .lit (.int .u64 1000000000000000000), .lit (.int .u64 10000000000000000000)]
/-- One of Go's own tables, pinned by name: the form's constant. -/
def laid_internal_strconv_leftcheats : DataW Unit := Go.Pinned.leftcheats
/-- One of Go's own tables, pinned by name: the form's constant. -/
def laid_internal_strconv_pow10Tab : DataW Unit := Go.Pinned.pow10Tab

/-- 'erratalaw04.KindsNothings': WHATEVER THE INPUT: true; the input reads as it did. -/
def kindsNothingsSpec : ChangeSpec := { name := "kindsNothings", fn := fun _ => fun
  | [] => { results := [.lit (.bool true)], args := [] }
  | _ => none }
def kindsNothingsRow : OpenClaim := { program := "ytkcicddbobpegaagreatdoor", sum := "846767688637e179e1df8246cc904cee04b0980c8531ef299a4dd8c6a9c12215", func := "errata/erratalaw04.KindsNothings", spec := "kindsNothings", inPlace := ["math.Float64bits"], unfollowed := true, recurses := true, named := ["errata/kinds.rows"], apart := false, laid := [("errata/kinds.rows", laid_errata_kinds_rows)] }
def KindsNothingsSaid : Prop := kindsNothingsRow.holds Tryz.pinned (OpenSpec.ofChange kindsNothingsSpec)

/-- ITS FALSE NEIGHBOUR: 'it returns false'. Refute it at one input. -/
def kindsNothingsWrong : ChangeSpec := { name := "kindsNothings", fn := fun _ => fun
  | [] => { results := [.lit (.bool false)], args := [] }
  | _ => none }
def KindsNothingsWrongFalsely : Prop := kindsNothingsRow.holds Tryz.pinned (OpenSpec.ofChange kindsNothingsWrong)

/-- 'erratalaw04.KindsApart': WHATEVER THE INPUT: true; the input reads as it did. -/
def kindsApartSpec : ChangeSpec := { name := "kindsApart", fn := fun _ => fun
  | [d] => { results := [.lit (.bool true)], args := [d] }
  | _ => none }
def kindsApartRow : OpenClaim := { program := "ytkcicddbobpegaagreatdoor", sum := "846767688637e179e1df8246cc904cee04b0980c8531ef299a4dd8c6a9c12215", func := "errata/erratalaw04.KindsApart", spec := "kindsApart", inPlace := ["math.Float64bits"], unfollowed := true, recurses := true, named := ["errata/kinds.rows"], apart := false, laid := [("errata/kinds.rows", laid_errata_kinds_rows)] }
def KindsApartSaid : Prop := kindsApartRow.holds Tryz.pinned (OpenSpec.ofChange kindsApartSpec)

/-- ITS FALSE NEIGHBOUR: 'it returns false'. Refute it at one input. -/
def kindsApartWrong : ChangeSpec := { name := "kindsApart", fn := fun _ => fun
  | [d] => { results := [.lit (.bool false)], args := [d] }
  | _ => none }
def KindsApartWrongFalsely : Prop := kindsApartRow.holds Tryz.pinned (OpenSpec.ofChange kindsApartWrong)

/-- 'erratalaw04.KindsKeeps': WHATEVER THE INPUT: true; the input reads as it did. -/
def kindsKeepsSpec : ChangeSpec := { name := "kindsKeeps", fn := fun _ => fun
  | [d1, d2, d3] => { results := [.lit (.bool true)], args := [d1, d2, d3] }
  | _ => none }
def kindsKeepsRow : OpenClaim := { program := "ytkcicddbobpegaagreatdoor", sum := "846767688637e179e1df8246cc904cee04b0980c8531ef299a4dd8c6a9c12215", func := "errata/erratalaw04.KindsKeeps", spec := "kindsKeeps", inPlace := ["math.Float64bits"], unfollowed := true, recurses := true, named := ["errata/kinds.rows"], apart := false, laid := [("errata/kinds.rows", laid_errata_kinds_rows)] }
def KindsKeepsSaid : Prop := kindsKeepsRow.holds Tryz.pinned (OpenSpec.ofChange kindsKeepsSpec)

/-- ITS FALSE NEIGHBOUR: 'it returns false'. Refute it at one input. -/
def kindsKeepsWrong : ChangeSpec := { name := "kindsKeeps", fn := fun _ => fun
  | [d1, d2, d3] => { results := [.lit (.bool false)], args := [d1, d2, d3] }
  | _ => none }
def KindsKeepsWrongFalsely : Prop := kindsKeepsRow.holds Tryz.pinned (OpenSpec.ofChange kindsKeepsWrong)

/-- 'erratalaw04.KindsOnce': WHATEVER THE INPUT: true; the input reads as it did. -/
def kindsOnceSpec : ChangeSpec := { name := "kindsOnce", fn := fun _ => fun
  | [d1, d2, d3] => { results := [.lit (.bool true)], args := [d1, d2, d3] }
  | _ => none }
def kindsOnceRow : OpenClaim := { program := "ytkcicddbobpegaagreatdoor", sum := "846767688637e179e1df8246cc904cee04b0980c8531ef299a4dd8c6a9c12215", func := "errata/erratalaw04.KindsOnce", spec := "kindsOnce", inPlace := ["math.Float64bits", "sync/atomic.LoadUint32"], unfollowed := true, recurses := true, named := ["errata/kinds.rows"], apart := false, laid := [("errata/kinds.rows", laid_errata_kinds_rows)] }
def KindsOnceSaid : Prop := kindsOnceRow.holds Tryz.pinned (OpenSpec.ofChange kindsOnceSpec)

/-- ITS FALSE NEIGHBOUR: 'it returns false'. Refute it at one input. -/
def kindsOnceWrong : ChangeSpec := { name := "kindsOnce", fn := fun _ => fun
  | [d1, d2, d3] => { results := [.lit (.bool false)], args := [d1, d2, d3] }
  | _ => none }
def KindsOnceWrongFalsely : Prop := kindsOnceRow.holds Tryz.pinned (OpenSpec.ofChange kindsOnceWrong)

/-- 'erratalaw04.KindsHand': WHATEVER THE INPUT: true; the input reads as it did. -/
def kindsHandSpec : ChangeSpec := { name := "kindsHand", fn := fun _ => fun
  | [d1, d2, d3] => { results := [.lit (.bool true)], args := [d1, d2, d3] }
  | _ => none }
def kindsHandRow : OpenClaim := { program := "ytkcicddbobpegaagreatdoor", sum := "846767688637e179e1df8246cc904cee04b0980c8531ef299a4dd8c6a9c12215", func := "errata/erratalaw04.KindsHand", spec := "kindsHand", inPlace := ["math.Float64bits", "math.Float64frombits", "internal/strconv.float32bits", "internal/strconv.float64bits", "internal/bytealg.IndexByteString", "internal/bytealg.IndexString", "internal/abi.NoEscape", "internal/bytealg.MakeNoZero"], unfollowed := true, recurses := true, named := ["errata/kinds.rows", "internal/strconv.uint64pow10", "math/bits.deBruijn32tab", "math/bits.deBruijn64tab", "internal/strconv.optimize", "internal/strconv.pow10Tab", "internal/strconv.leftcheats", "internal/bytealg.MaxLen"], apart := false, laid := [("math/bits.deBruijn32tab", laid_math_bits_deBruijn32tab), ("math/bits.deBruijn64tab", laid_math_bits_deBruijn64tab), ("internal/strconv.optimize", laid_internal_strconv_optimize), ("internal/strconv.uint64pow10", laid_internal_strconv_uint64pow10), ("errata/kinds.rows", laid_errata_kinds_rows), ("internal/strconv.leftcheats", laid_internal_strconv_leftcheats), ("internal/strconv.pow10Tab", laid_internal_strconv_pow10Tab)] }
def KindsHandSaid : Prop := kindsHandRow.holds Tryz.pinned (OpenSpec.ofChange kindsHandSpec)

/-- ITS FALSE NEIGHBOUR: 'it returns false'. Refute it at one input. -/
def kindsHandWrong : ChangeSpec := { name := "kindsHand", fn := fun _ => fun
  | [d1, d2, d3] => { results := [.lit (.bool false)], args := [d1, d2, d3] }
  | _ => none }
def KindsHandWrongFalsely : Prop := kindsHandRow.holds Tryz.pinned (OpenSpec.ofChange kindsHandWrong)

/-- 'erratalaw05.BookNames': WHATEVER THE INPUT: true; the input reads as it did. -/
def bookNamesSpec : ChangeSpec := { name := "bookNames", fn := fun _ => fun
  | [] => { results := [.lit (.bool true)], args := [] }
  | _ => none }
def bookNamesRow : OpenClaim := { program := "ytkcicddbobpegaagreatdoor", sum := "846767688637e179e1df8246cc904cee04b0980c8531ef299a4dd8c6a9c12215", func := "errata/erratalaw05.BookNames", spec := "bookNames", inPlace := ["math.Float64bits", "internal/abi.NoEscape", "internal/strconv.float32bits", "internal/strconv.float64bits", "math.Float64frombits", "internal/bytealg.IndexByteString", "internal/bytealg.IndexString"], unfollowed := true, recurses := true, named := ["errata/kinds.rows", "internal/strconv.uint64pow10", "math/bits.deBruijn32tab", "math/bits.deBruijn64tab", "internal/strconv.optimize", "internal/strconv.pow10Tab", "internal/strconv.leftcheats", "internal/bytealg.MaxLen"], apart := false, laid := [("math/bits.deBruijn32tab", laid_math_bits_deBruijn32tab), ("math/bits.deBruijn64tab", laid_math_bits_deBruijn64tab), ("internal/strconv.optimize", laid_internal_strconv_optimize), ("internal/strconv.uint64pow10", laid_internal_strconv_uint64pow10), ("errata/kinds.rows", laid_errata_kinds_rows), ("internal/strconv.leftcheats", laid_internal_strconv_leftcheats), ("internal/strconv.pow10Tab", laid_internal_strconv_pow10Tab)] }
def BookNamesSaid : Prop := bookNamesRow.holds Tryz.pinned (OpenSpec.ofChange bookNamesSpec)

/-- ITS FALSE NEIGHBOUR: 'it returns false'. Refute it at one input. -/
def bookNamesWrong : ChangeSpec := { name := "bookNames", fn := fun _ => fun
  | [] => { results := [.lit (.bool false)], args := [] }
  | _ => none }
def BookNamesWrongFalsely : Prop := bookNamesRow.holds Tryz.pinned (OpenSpec.ofChange bookNamesWrong)

/-- 'erratalaw05.BookLimits': WHATEVER THE INPUT: true; the input reads as it did. -/
def bookLimitsSpec : ChangeSpec := { name := "bookLimits", fn := fun _ => fun
  | [] => { results := [.lit (.bool true)], args := [] }
  | _ => none }
def bookLimitsRow : OpenClaim := { program := "ytkcicddbobpegaagreatdoor", sum := "846767688637e179e1df8246cc904cee04b0980c8531ef299a4dd8c6a9c12215", func := "errata/erratalaw05.BookLimits", spec := "bookLimits", inPlace := ["math.Float64bits", "internal/abi.NoEscape", "internal/strconv.float32bits", "internal/strconv.float64bits", "math.Float64frombits", "internal/bytealg.IndexByteString", "internal/bytealg.IndexString"], unfollowed := true, recurses := true, named := ["errata/kinds.rows", "internal/strconv.uint64pow10", "math/bits.deBruijn32tab", "math/bits.deBruijn64tab", "internal/strconv.optimize", "internal/strconv.pow10Tab", "internal/strconv.leftcheats", "internal/bytealg.MaxLen"], apart := false, laid := [("math/bits.deBruijn32tab", laid_math_bits_deBruijn32tab), ("math/bits.deBruijn64tab", laid_math_bits_deBruijn64tab), ("internal/strconv.optimize", laid_internal_strconv_optimize), ("internal/strconv.uint64pow10", laid_internal_strconv_uint64pow10), ("errata/kinds.rows", laid_errata_kinds_rows), ("internal/strconv.leftcheats", laid_internal_strconv_leftcheats), ("internal/strconv.pow10Tab", laid_internal_strconv_pow10Tab)] }
def BookLimitsSaid : Prop := bookLimitsRow.holds Tryz.pinned (OpenSpec.ofChange bookLimitsSpec)

/-- ITS FALSE NEIGHBOUR: 'it returns false'. Refute it at one input. -/
def bookLimitsWrong : ChangeSpec := { name := "bookLimits", fn := fun _ => fun
  | [] => { results := [.lit (.bool false)], args := [] }
  | _ => none }
def BookLimitsWrongFalsely : Prop := bookLimitsRow.holds Tryz.pinned (OpenSpec.ofChange bookLimitsWrong)

/-- 'erratalaw05.BookTypes': WHATEVER THE INPUT: true; the input reads as it did. -/
def bookTypesSpec : ChangeSpec := { name := "bookTypes", fn := fun _ => fun
  | [d] => { results := [.lit (.bool true)], args := [d] }
  | _ => none }
def bookTypesRow : OpenClaim := { program := "ytkcicddbobpegaagreatdoor", sum := "846767688637e179e1df8246cc904cee04b0980c8531ef299a4dd8c6a9c12215", func := "errata/erratalaw05.BookTypes", spec := "bookTypes", inPlace := ["math.Float64bits", "internal/abi.NoEscape", "internal/strconv.float32bits", "internal/strconv.float64bits", "math.Float64frombits", "internal/bytealg.IndexByteString", "internal/bytealg.IndexString"], unfollowed := true, recurses := true, named := ["errata/kinds.rows", "internal/strconv.uint64pow10", "math/bits.deBruijn32tab", "math/bits.deBruijn64tab", "internal/strconv.optimize", "internal/strconv.pow10Tab", "internal/strconv.leftcheats", "internal/bytealg.MaxLen"], apart := false, laid := [("math/bits.deBruijn32tab", laid_math_bits_deBruijn32tab), ("math/bits.deBruijn64tab", laid_math_bits_deBruijn64tab), ("internal/strconv.optimize", laid_internal_strconv_optimize), ("internal/strconv.uint64pow10", laid_internal_strconv_uint64pow10), ("errata/kinds.rows", laid_errata_kinds_rows), ("internal/strconv.leftcheats", laid_internal_strconv_leftcheats), ("internal/strconv.pow10Tab", laid_internal_strconv_pow10Tab)] }
def BookTypesSaid : Prop := bookTypesRow.holds Tryz.pinned (OpenSpec.ofChange bookTypesSpec)

/-- ITS FALSE NEIGHBOUR: 'it returns false'. Refute it at one input. -/
def bookTypesWrong : ChangeSpec := { name := "bookTypes", fn := fun _ => fun
  | [d] => { results := [.lit (.bool false)], args := [d] }
  | _ => none }
def BookTypesWrongFalsely : Prop := bookTypesRow.holds Tryz.pinned (OpenSpec.ofChange bookTypesWrong)

/-- 'erratalaw05.BookParts': WHATEVER THE INPUT: true; the input reads as it did. -/
def bookPartsSpec : ChangeSpec := { name := "bookParts", fn := fun _ => fun
  | [d] => { results := [.lit (.bool true)], args := [d] }
  | _ => none }
def bookPartsRow : OpenClaim := { program := "ytkcicddbobpegaagreatdoor", sum := "846767688637e179e1df8246cc904cee04b0980c8531ef299a4dd8c6a9c12215", func := "errata/erratalaw05.BookParts", spec := "bookParts", inPlace := ["math.Float64bits", "internal/abi.NoEscape", "internal/strconv.float32bits", "internal/strconv.float64bits", "math.Float64frombits", "internal/bytealg.IndexByteString", "internal/bytealg.IndexString"], unfollowed := true, recurses := true, named := ["errata/kinds.rows", "internal/strconv.uint64pow10", "math/bits.deBruijn32tab", "math/bits.deBruijn64tab", "internal/strconv.optimize", "internal/strconv.pow10Tab", "internal/strconv.leftcheats", "internal/bytealg.MaxLen"], apart := false, laid := [("math/bits.deBruijn32tab", laid_math_bits_deBruijn32tab), ("math/bits.deBruijn64tab", laid_math_bits_deBruijn64tab), ("internal/strconv.optimize", laid_internal_strconv_optimize), ("internal/strconv.uint64pow10", laid_internal_strconv_uint64pow10), ("errata/kinds.rows", laid_errata_kinds_rows), ("internal/strconv.leftcheats", laid_internal_strconv_leftcheats), ("internal/strconv.pow10Tab", laid_internal_strconv_pow10Tab)] }
def BookPartsSaid : Prop := bookPartsRow.holds Tryz.pinned (OpenSpec.ofChange bookPartsSpec)

/-- ITS FALSE NEIGHBOUR: 'it returns false'. Refute it at one input. -/
def bookPartsWrong : ChangeSpec := { name := "bookParts", fn := fun _ => fun
  | [d] => { results := [.lit (.bool false)], args := [d] }
  | _ => none }
def BookPartsWrongFalsely : Prop := bookPartsRow.holds Tryz.pinned (OpenSpec.ofChange bookPartsWrong)

/-- 'erratalaw05.BookWords': WHATEVER THE INPUT: true; the input reads as it did. -/
def bookWordsSpec : ChangeSpec := { name := "bookWords", fn := fun _ => fun
  | [d] => { results := [.lit (.bool true)], args := [d] }
  | _ => none }
def bookWordsRow : OpenClaim := { program := "ytkcicddbobpegaagreatdoor", sum := "846767688637e179e1df8246cc904cee04b0980c8531ef299a4dd8c6a9c12215", func := "errata/erratalaw05.BookWords", spec := "bookWords", inPlace := ["math.Float64bits", "internal/abi.NoEscape", "internal/strconv.float32bits", "internal/strconv.float64bits", "math.Float64frombits", "internal/bytealg.IndexByteString", "internal/bytealg.IndexString", "sync/atomic.LoadUint32"], unfollowed := true, recurses := true, named := ["errata/kinds.rows", "internal/strconv.uint64pow10", "math/bits.deBruijn32tab", "math/bits.deBruijn64tab", "internal/strconv.optimize", "internal/strconv.pow10Tab", "internal/strconv.leftcheats", "internal/bytealg.MaxLen"], apart := false, laid := [("math/bits.deBruijn32tab", laid_math_bits_deBruijn32tab), ("math/bits.deBruijn64tab", laid_math_bits_deBruijn64tab), ("internal/strconv.optimize", laid_internal_strconv_optimize), ("internal/strconv.uint64pow10", laid_internal_strconv_uint64pow10), ("errata/kinds.rows", laid_errata_kinds_rows), ("internal/strconv.leftcheats", laid_internal_strconv_leftcheats), ("internal/strconv.pow10Tab", laid_internal_strconv_pow10Tab)] }
def BookWordsSaid : Prop := bookWordsRow.holds Tryz.pinned (OpenSpec.ofChange bookWordsSpec)

/-- ITS FALSE NEIGHBOUR: 'it returns false'. Refute it at one input. -/
def bookWordsWrong : ChangeSpec := { name := "bookWords", fn := fun _ => fun
  | [d] => { results := [.lit (.bool false)], args := [d] }
  | _ => none }
def BookWordsWrongFalsely : Prop := bookWordsRow.holds Tryz.pinned (OpenSpec.ofChange bookWordsWrong)

/-- 'erratalaw05.BookCalls': WHATEVER THE INPUT: true; the input reads as it did. -/
def bookCallsSpec : ChangeSpec := { name := "bookCalls", fn := fun _ => fun
  | [d] => { results := [.lit (.bool true)], args := [d] }
  | _ => none }
def bookCallsRow : OpenClaim := { program := "ytkcicddbobpegaagreatdoor", sum := "846767688637e179e1df8246cc904cee04b0980c8531ef299a4dd8c6a9c12215", func := "errata/erratalaw05.BookCalls", spec := "bookCalls", inPlace := ["math.Float64bits", "internal/abi.NoEscape", "internal/strconv.float32bits", "internal/strconv.float64bits", "math.Float64frombits", "internal/bytealg.IndexByteString", "internal/bytealg.IndexString", "sync/atomic.LoadUint32"], unfollowed := true, recurses := true, named := ["errata/kinds.rows", "internal/strconv.uint64pow10", "math/bits.deBruijn32tab", "math/bits.deBruijn64tab", "internal/strconv.optimize", "internal/strconv.pow10Tab", "internal/strconv.leftcheats", "internal/bytealg.MaxLen"], apart := false, laid := [("math/bits.deBruijn32tab", laid_math_bits_deBruijn32tab), ("math/bits.deBruijn64tab", laid_math_bits_deBruijn64tab), ("internal/strconv.optimize", laid_internal_strconv_optimize), ("internal/strconv.uint64pow10", laid_internal_strconv_uint64pow10), ("errata/kinds.rows", laid_errata_kinds_rows), ("internal/strconv.leftcheats", laid_internal_strconv_leftcheats), ("internal/strconv.pow10Tab", laid_internal_strconv_pow10Tab)] }
def BookCallsSaid : Prop := bookCallsRow.holds Tryz.pinned (OpenSpec.ofChange bookCallsSpec)

/-- ITS FALSE NEIGHBOUR: 'it returns false'. Refute it at one input. -/
def bookCallsWrong : ChangeSpec := { name := "bookCalls", fn := fun _ => fun
  | [d] => { results := [.lit (.bool false)], args := [d] }
  | _ => none }
def BookCallsWrongFalsely : Prop := bookCallsRow.holds Tryz.pinned (OpenSpec.ofChange bookCallsWrong)

/- THE SECOND FORM. 'bulk': how many values and letters a reading holds, each counted each time it is reached (what is shared counts as often as it is met; a slice's spare places count too). A statement '..UptoSaid' is the law's where the arguments, and the package variables that the reading takes, are together of bulk at most 1048576: NARROWER than '..Said'. Prove '..Said' where nothing that the law and all that it calls make is longer than what came in: it says more and counts as full. Else prove '..UptoSaid'. A law counts once. -/
mutual
def uptoBulk {H : Type} : DataW H → Nat
  | .lit (.string bytes) => bytes.length + 1
  | .lit _ => 1
  | .nil => 1
  | .ptr d => uptoBulk d + 1
  | .slice elems spare => uptoBulkAll elems + uptoBulkAll spare + 1
  | .agg parts => uptoBulkAll parts + 1
  | .iface _ d => uptoBulk d + 1
  | .map entries => uptoBulkEntries entries + 1
  | .held _ => 1
def uptoBulkAll {H : Type} : List (DataW H) → Nat
  | [] => 0
  | d :: r => uptoBulk d + uptoBulkAll r
def uptoBulkEntries {H : Type} : List (Lit × DataW H) → Nat
  | [] => 0
  | x :: r => uptoBulkEntry x + uptoBulkEntries r
def uptoBulkEntry {H : Type} : Lit × DataW H → Nat
  | (.string bytes, d) => bytes.length + uptoBulk d + 1
  | (_, d) => uptoBulk d + 1
 end
def uptoSmall : (H : Type) → List (DataW H) → Bool := fun _ ds => decide (uptoBulkAll ds ≤ 1048576)
def OpenSpec.upto (s : _root_.Go.ChangeSpec) : _root_.Go.OpenSpec := { _root_.Go.OpenSpec.ofChange s with cond := some uptoSmall }

/-- 'erratalaw04.KindsNothings', WHERE WHAT IT READS IS OF BULK AT MOST 1048576: true; the input reads as it did. -/
def kindsNothingsUptoRow : OpenClaim := { program := "ytkcicddbobpegaagreatdoor", sum := "846767688637e179e1df8246cc904cee04b0980c8531ef299a4dd8c6a9c12215", func := "errata/erratalaw04.KindsNothings", spec := "kindsNothings", inPlace := ["math.Float64bits"], unfollowed := true, recurses := true, named := ["errata/kinds.rows"], apart := false, laid := [("errata/kinds.rows", laid_errata_kinds_rows)], narrowed := true }
def KindsNothingsUptoSaid : Prop := kindsNothingsUptoRow.holds Tryz.pinned (OpenSpec.upto kindsNothingsSpec)

/-- 'erratalaw04.KindsApart', WHERE WHAT IT READS IS OF BULK AT MOST 1048576: true; the input reads as it did. -/
def kindsApartUptoRow : OpenClaim := { program := "ytkcicddbobpegaagreatdoor", sum := "846767688637e179e1df8246cc904cee04b0980c8531ef299a4dd8c6a9c12215", func := "errata/erratalaw04.KindsApart", spec := "kindsApart", inPlace := ["math.Float64bits"], unfollowed := true, recurses := true, named := ["errata/kinds.rows"], apart := false, laid := [("errata/kinds.rows", laid_errata_kinds_rows)], narrowed := true }
def KindsApartUptoSaid : Prop := kindsApartUptoRow.holds Tryz.pinned (OpenSpec.upto kindsApartSpec)

/-- 'erratalaw04.KindsKeeps', WHERE WHAT IT READS IS OF BULK AT MOST 1048576: true; the input reads as it did. -/
def kindsKeepsUptoRow : OpenClaim := { program := "ytkcicddbobpegaagreatdoor", sum := "846767688637e179e1df8246cc904cee04b0980c8531ef299a4dd8c6a9c12215", func := "errata/erratalaw04.KindsKeeps", spec := "kindsKeeps", inPlace := ["math.Float64bits"], unfollowed := true, recurses := true, named := ["errata/kinds.rows"], apart := false, laid := [("errata/kinds.rows", laid_errata_kinds_rows)], narrowed := true }
def KindsKeepsUptoSaid : Prop := kindsKeepsUptoRow.holds Tryz.pinned (OpenSpec.upto kindsKeepsSpec)

/-- 'erratalaw04.KindsOnce', WHERE WHAT IT READS IS OF BULK AT MOST 1048576: true; the input reads as it did. -/
def kindsOnceUptoRow : OpenClaim := { program := "ytkcicddbobpegaagreatdoor", sum := "846767688637e179e1df8246cc904cee04b0980c8531ef299a4dd8c6a9c12215", func := "errata/erratalaw04.KindsOnce", spec := "kindsOnce", inPlace := ["math.Float64bits", "sync/atomic.LoadUint32"], unfollowed := true, recurses := true, named := ["errata/kinds.rows"], apart := false, laid := [("errata/kinds.rows", laid_errata_kinds_rows)], narrowed := true }
def KindsOnceUptoSaid : Prop := kindsOnceUptoRow.holds Tryz.pinned (OpenSpec.upto kindsOnceSpec)

/-- 'erratalaw04.KindsHand', WHERE WHAT IT READS IS OF BULK AT MOST 1048576: true; the input reads as it did. -/
def kindsHandUptoRow : OpenClaim := { program := "ytkcicddbobpegaagreatdoor", sum := "846767688637e179e1df8246cc904cee04b0980c8531ef299a4dd8c6a9c12215", func := "errata/erratalaw04.KindsHand", spec := "kindsHand", inPlace := ["math.Float64bits", "math.Float64frombits", "internal/strconv.float32bits", "internal/strconv.float64bits", "internal/bytealg.IndexByteString", "internal/bytealg.IndexString", "internal/abi.NoEscape", "internal/bytealg.MakeNoZero"], unfollowed := true, recurses := true, named := ["errata/kinds.rows", "internal/strconv.uint64pow10", "math/bits.deBruijn32tab", "math/bits.deBruijn64tab", "internal/strconv.optimize", "internal/strconv.pow10Tab", "internal/strconv.leftcheats", "internal/bytealg.MaxLen"], apart := false, laid := [("math/bits.deBruijn32tab", laid_math_bits_deBruijn32tab), ("math/bits.deBruijn64tab", laid_math_bits_deBruijn64tab), ("internal/strconv.optimize", laid_internal_strconv_optimize), ("internal/strconv.uint64pow10", laid_internal_strconv_uint64pow10), ("errata/kinds.rows", laid_errata_kinds_rows), ("internal/strconv.leftcheats", laid_internal_strconv_leftcheats), ("internal/strconv.pow10Tab", laid_internal_strconv_pow10Tab)], narrowed := true }
def KindsHandUptoSaid : Prop := kindsHandUptoRow.holds Tryz.pinned (OpenSpec.upto kindsHandSpec)

/-- 'erratalaw05.BookNames', WHERE WHAT IT READS IS OF BULK AT MOST 1048576: true; the input reads as it did. -/
def bookNamesUptoRow : OpenClaim := { program := "ytkcicddbobpegaagreatdoor", sum := "846767688637e179e1df8246cc904cee04b0980c8531ef299a4dd8c6a9c12215", func := "errata/erratalaw05.BookNames", spec := "bookNames", inPlace := ["math.Float64bits", "internal/abi.NoEscape", "internal/strconv.float32bits", "internal/strconv.float64bits", "math.Float64frombits", "internal/bytealg.IndexByteString", "internal/bytealg.IndexString"], unfollowed := true, recurses := true, named := ["errata/kinds.rows", "internal/strconv.uint64pow10", "math/bits.deBruijn32tab", "math/bits.deBruijn64tab", "internal/strconv.optimize", "internal/strconv.pow10Tab", "internal/strconv.leftcheats", "internal/bytealg.MaxLen"], apart := false, laid := [("math/bits.deBruijn32tab", laid_math_bits_deBruijn32tab), ("math/bits.deBruijn64tab", laid_math_bits_deBruijn64tab), ("internal/strconv.optimize", laid_internal_strconv_optimize), ("internal/strconv.uint64pow10", laid_internal_strconv_uint64pow10), ("errata/kinds.rows", laid_errata_kinds_rows), ("internal/strconv.leftcheats", laid_internal_strconv_leftcheats), ("internal/strconv.pow10Tab", laid_internal_strconv_pow10Tab)], narrowed := true }
def BookNamesUptoSaid : Prop := bookNamesUptoRow.holds Tryz.pinned (OpenSpec.upto bookNamesSpec)

/-- 'erratalaw05.BookLimits', WHERE WHAT IT READS IS OF BULK AT MOST 1048576: true; the input reads as it did. -/
def bookLimitsUptoRow : OpenClaim := { program := "ytkcicddbobpegaagreatdoor", sum := "846767688637e179e1df8246cc904cee04b0980c8531ef299a4dd8c6a9c12215", func := "errata/erratalaw05.BookLimits", spec := "bookLimits", inPlace := ["math.Float64bits", "internal/abi.NoEscape", "internal/strconv.float32bits", "internal/strconv.float64bits", "math.Float64frombits", "internal/bytealg.IndexByteString", "internal/bytealg.IndexString"], unfollowed := true, recurses := true, named := ["errata/kinds.rows", "internal/strconv.uint64pow10", "math/bits.deBruijn32tab", "math/bits.deBruijn64tab", "internal/strconv.optimize", "internal/strconv.pow10Tab", "internal/strconv.leftcheats", "internal/bytealg.MaxLen"], apart := false, laid := [("math/bits.deBruijn32tab", laid_math_bits_deBruijn32tab), ("math/bits.deBruijn64tab", laid_math_bits_deBruijn64tab), ("internal/strconv.optimize", laid_internal_strconv_optimize), ("internal/strconv.uint64pow10", laid_internal_strconv_uint64pow10), ("errata/kinds.rows", laid_errata_kinds_rows), ("internal/strconv.leftcheats", laid_internal_strconv_leftcheats), ("internal/strconv.pow10Tab", laid_internal_strconv_pow10Tab)], narrowed := true }
def BookLimitsUptoSaid : Prop := bookLimitsUptoRow.holds Tryz.pinned (OpenSpec.upto bookLimitsSpec)

/-- 'erratalaw05.BookTypes', WHERE WHAT IT READS IS OF BULK AT MOST 1048576: true; the input reads as it did. -/
def bookTypesUptoRow : OpenClaim := { program := "ytkcicddbobpegaagreatdoor", sum := "846767688637e179e1df8246cc904cee04b0980c8531ef299a4dd8c6a9c12215", func := "errata/erratalaw05.BookTypes", spec := "bookTypes", inPlace := ["math.Float64bits", "internal/abi.NoEscape", "internal/strconv.float32bits", "internal/strconv.float64bits", "math.Float64frombits", "internal/bytealg.IndexByteString", "internal/bytealg.IndexString"], unfollowed := true, recurses := true, named := ["errata/kinds.rows", "internal/strconv.uint64pow10", "math/bits.deBruijn32tab", "math/bits.deBruijn64tab", "internal/strconv.optimize", "internal/strconv.pow10Tab", "internal/strconv.leftcheats", "internal/bytealg.MaxLen"], apart := false, laid := [("math/bits.deBruijn32tab", laid_math_bits_deBruijn32tab), ("math/bits.deBruijn64tab", laid_math_bits_deBruijn64tab), ("internal/strconv.optimize", laid_internal_strconv_optimize), ("internal/strconv.uint64pow10", laid_internal_strconv_uint64pow10), ("errata/kinds.rows", laid_errata_kinds_rows), ("internal/strconv.leftcheats", laid_internal_strconv_leftcheats), ("internal/strconv.pow10Tab", laid_internal_strconv_pow10Tab)], narrowed := true }
def BookTypesUptoSaid : Prop := bookTypesUptoRow.holds Tryz.pinned (OpenSpec.upto bookTypesSpec)

/-- 'erratalaw05.BookParts', WHERE WHAT IT READS IS OF BULK AT MOST 1048576: true; the input reads as it did. -/
def bookPartsUptoRow : OpenClaim := { program := "ytkcicddbobpegaagreatdoor", sum := "846767688637e179e1df8246cc904cee04b0980c8531ef299a4dd8c6a9c12215", func := "errata/erratalaw05.BookParts", spec := "bookParts", inPlace := ["math.Float64bits", "internal/abi.NoEscape", "internal/strconv.float32bits", "internal/strconv.float64bits", "math.Float64frombits", "internal/bytealg.IndexByteString", "internal/bytealg.IndexString"], unfollowed := true, recurses := true, named := ["errata/kinds.rows", "internal/strconv.uint64pow10", "math/bits.deBruijn32tab", "math/bits.deBruijn64tab", "internal/strconv.optimize", "internal/strconv.pow10Tab", "internal/strconv.leftcheats", "internal/bytealg.MaxLen"], apart := false, laid := [("math/bits.deBruijn32tab", laid_math_bits_deBruijn32tab), ("math/bits.deBruijn64tab", laid_math_bits_deBruijn64tab), ("internal/strconv.optimize", laid_internal_strconv_optimize), ("internal/strconv.uint64pow10", laid_internal_strconv_uint64pow10), ("errata/kinds.rows", laid_errata_kinds_rows), ("internal/strconv.leftcheats", laid_internal_strconv_leftcheats), ("internal/strconv.pow10Tab", laid_internal_strconv_pow10Tab)], narrowed := true }
def BookPartsUptoSaid : Prop := bookPartsUptoRow.holds Tryz.pinned (OpenSpec.upto bookPartsSpec)

/-- 'erratalaw05.BookWords', WHERE WHAT IT READS IS OF BULK AT MOST 1048576: true; the input reads as it did. -/
def bookWordsUptoRow : OpenClaim := { program := "ytkcicddbobpegaagreatdoor", sum := "846767688637e179e1df8246cc904cee04b0980c8531ef299a4dd8c6a9c12215", func := "errata/erratalaw05.BookWords", spec := "bookWords", inPlace := ["math.Float64bits", "internal/abi.NoEscape", "internal/strconv.float32bits", "internal/strconv.float64bits", "math.Float64frombits", "internal/bytealg.IndexByteString", "internal/bytealg.IndexString", "sync/atomic.LoadUint32"], unfollowed := true, recurses := true, named := ["errata/kinds.rows", "internal/strconv.uint64pow10", "math/bits.deBruijn32tab", "math/bits.deBruijn64tab", "internal/strconv.optimize", "internal/strconv.pow10Tab", "internal/strconv.leftcheats", "internal/bytealg.MaxLen"], apart := false, laid := [("math/bits.deBruijn32tab", laid_math_bits_deBruijn32tab), ("math/bits.deBruijn64tab", laid_math_bits_deBruijn64tab), ("internal/strconv.optimize", laid_internal_strconv_optimize), ("internal/strconv.uint64pow10", laid_internal_strconv_uint64pow10), ("errata/kinds.rows", laid_errata_kinds_rows), ("internal/strconv.leftcheats", laid_internal_strconv_leftcheats), ("internal/strconv.pow10Tab", laid_internal_strconv_pow10Tab)], narrowed := true }
def BookWordsUptoSaid : Prop := bookWordsUptoRow.holds Tryz.pinned (OpenSpec.upto bookWordsSpec)

/-- 'erratalaw05.BookCalls', WHERE WHAT IT READS IS OF BULK AT MOST 1048576: true; the input reads as it did. -/
def bookCallsUptoRow : OpenClaim := { program := "ytkcicddbobpegaagreatdoor", sum := "846767688637e179e1df8246cc904cee04b0980c8531ef299a4dd8c6a9c12215", func := "errata/erratalaw05.BookCalls", spec := "bookCalls", inPlace := ["math.Float64bits", "internal/abi.NoEscape", "internal/strconv.float32bits", "internal/strconv.float64bits", "math.Float64frombits", "internal/bytealg.IndexByteString", "internal/bytealg.IndexString", "sync/atomic.LoadUint32"], unfollowed := true, recurses := true, named := ["errata/kinds.rows", "internal/strconv.uint64pow10", "math/bits.deBruijn32tab", "math/bits.deBruijn64tab", "internal/strconv.optimize", "internal/strconv.pow10Tab", "internal/strconv.leftcheats", "internal/bytealg.MaxLen"], apart := false, laid := [("math/bits.deBruijn32tab", laid_math_bits_deBruijn32tab), ("math/bits.deBruijn64tab", laid_math_bits_deBruijn64tab), ("internal/strconv.optimize", laid_internal_strconv_optimize), ("internal/strconv.uint64pow10", laid_internal_strconv_uint64pow10), ("errata/kinds.rows", laid_errata_kinds_rows), ("internal/strconv.leftcheats", laid_internal_strconv_leftcheats), ("internal/strconv.pow10Tab", laid_internal_strconv_pow10Tab)], narrowed := true }
def BookCallsUptoSaid : Prop := bookCallsUptoRow.holds Tryz.pinned (OpenSpec.upto bookCallsSpec)

end Rows
end Go.Proofs.YtkcicddbobpegaaGreatDoor
