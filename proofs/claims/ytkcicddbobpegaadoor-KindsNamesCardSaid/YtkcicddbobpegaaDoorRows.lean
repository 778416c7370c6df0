/-
  NARROWER THAN 'FOR EVERY INPUT', by the rows' own cells (each row's printed sentence says how): KindsNames: laid.
  DERIVED. THE GIVEN ROWS OF THIS SEAT. 1 by the template 'for every input the law returns true; each argument reads behind the call as it read before'; 0 by the template 'total and deterministic' (their statements: YtkcicddbobpegaaDoorTotals.lean).
  GIVEN WITH THE SEED: the statements are not yours to turn. If you find one false, say at which input.
  Laid BY PROGRAM, IN A SANDBOX (cutbox-rows.mjs): the forced cells as the released guide's own fill.sh prints them over the translation c8c91f4c1e150fb2… (all of the seat's roots in one cut). By AI agents, Wed Nov 11 2026. No macro, syntax, notation, axiom, sorry.
-/
import Derived.Test.YtkcicddbobpegaaDoorChecked
import GoSem.Claim
import GoSem.ClaimJoined
import GoSem.ClaimMapViews
import Derived.JoinedTies
import Derived.KernelRfl
namespace Go.Proofs.YtkcicddbobpegaaDoor
/- THE CELL 'sum', in the pinned program and in every row, IS THE sha256 OF THE DUMP (.gsa) THAT YtkcicddbobpegaaDoorProg.lean LOADS. Nothing in Lean hashes anything: it is a label: what it is worth is what the hold of that sum in a sandbox is worth. -/
noncomputable def Tryd.pinned : Pinned := { name := "ytkcicddbobpegaadoor", sum := "c8c91f4c1e150fb29fe16b164b3fb0898d11add603620e050d506b6593be3fb7", checked := Tryd.checked }
namespace Rows
def none {H : Type} : Left H := { results := [], args := [] }

/- WHAT THE LISTED PACKAGE-LEVEL VARIABLES READ AS WHEN THE CALL BEGINS. Each datum BY PROGRAM (the guide's laid-datum.mjs) off the statement by which the dump's own 'gosem.cut.vars' lays the variable. In a bare row this is a premise. The card (YtkcicddbobpegaaDoorCards.lean) ties it to the program's text. -/
def laid_errata_kinds_rows {H : Type} : DataW H := .agg [.agg [.lit (.int .u8 0), .lit (.bool false), .lit (.int .i64 0)], .agg [.lit (.int .u8 2), .lit (.bool false), .lit (.int .i64 0)], .agg [.lit (.int .u8 1), .lit (.bool false), .lit (.int .i64 0)], .agg [.lit (.int .u8 8), .lit (.bool false), .lit (.int .i64 0)], .agg [.lit (.int .u8 24), .lit (.bool false), .lit (.int .i64 0)], .agg [.lit (.int .u8 1), .lit (.bool false), .lit (.int .i64 0)], .agg [.lit (.int .u8 130), .lit (.bool true), .lit (.int .i64 0)], .agg [.lit (.int .u8 33), .lit (.bool true), .lit (.int .i64 0)], .agg [.lit (.int .u8 0), .lit (.bool true), .lit (.int .i64 0)], .agg [.lit (.int .u8 1), .lit (.bool true), .lit (.int .i64 0)], .agg [.lit (.int .u8 33), .lit (.bool true), .lit (.int .i64 0)], .agg [.lit (.int .u8 3), .lit (.bool false), .lit (.int .i64 0)], .agg [.lit (.int .u8 129), .lit (.bool false), .lit (.int .i64 0)], .agg [.lit (.int .u8 1), .lit (.bool false), .lit (.int .i64 1)], .agg [.lit (.int .u8 1), .lit (.bool true), .lit (.int .i64 1)], .agg [.lit (.int .u8 1), .lit (.bool false), .lit (.int .i64 1)], .agg [.lit (.int .u8 0), .lit (.bool true), .lit (.int .i64 64)], .agg [.lit (.int .u8 32), .lit (.bool false), .lit (.int .i64 1)], .agg [.lit (.int .u8 2), .lit (.bool false), .lit (.int .i64 1)], .agg [.lit (.int .u8 10), .lit (.bool false), .lit (.int .i64 0)], .agg [.lit (.int .u8 0), .lit (.bool false), .lit (.int .i64 1)], .agg [.lit (.int .u8 33), .lit (.bool true), .lit (.int .i64 0)], .agg [.lit (.int .u8 3), .lit (.bool true), .lit (.int .i64 0)], .agg [.lit (.int .u8 0), .lit (.bool true), .lit (.int .i64 0)], .agg [.lit (.int .u8 33), .lit (.bool true), .lit (.int .i64 0)], .agg [.lit (.int .u8 3), .lit (.bool false), .lit (.int .i64 1)], .agg [.lit (.int .u8 193), .lit (.bool true), .lit (.int .i64 64)]]

/-- 'erratalaw04.KindsNames': WHATEVER THE INPUT: true; the input reads as it did. -/
def kindsNamesSpec : ChangeSpec := { name := "kindsNames", fn := fun _ => fun
  | [] => { results := [.lit (.bool true)], args := [] }
  | _ => none }
def kindsNamesRow : OpenClaim := { program := "ytkcicddbobpegaadoor", sum := "c8c91f4c1e150fb29fe16b164b3fb0898d11add603620e050d506b6593be3fb7", func := "errata/erratalaw04.KindsNames", spec := "kindsNames", inPlace := ["math.Float64bits"], unfollowed := true, recurses := true, named := ["errata/kinds.rows"], apart := false, laid := [("errata/kinds.rows", laid_errata_kinds_rows)] }
def KindsNamesSaid : Prop := kindsNamesRow.holds Tryd.pinned (OpenSpec.ofChange kindsNamesSpec)

/-- ITS FALSE NEIGHBOUR: 'it returns false'. Refute it at one input. -/
def kindsNamesWrong : ChangeSpec := { name := "kindsNames", fn := fun _ => fun
  | [] => { results := [.lit (.bool false)], args := [] }
  | _ => none }
def KindsNamesWrongFalsely : Prop := kindsNamesRow.holds Tryd.pinned (OpenSpec.ofChange kindsNamesWrong)

/- THE SECOND FORM. 'bulk': how many values and letters a reading holds, each counted each time it is reached (what is shared counts as often as it is met; a slice's spare places count too). A statement '..UptoSaid' is the law's where the arguments, and the package variables that the reading takes, are together of bulk at most 1048576: NARROWER than '..Said'. Prove '..Said' where nothing that the law and all that it calls make is longer than what came in: it says more and counts as full. Else prove '..UptoSaid'. A law counts once. -/
mutual
def uptoBulk {H : Type} : DataW H → Nat
  | .lit (.string bytes) => bytes.length + 1
  | .lit _ => 1
  | .nil => 1
  | .ptr d => uptoBulk d + 1
  | .slice elems spare => uptoBulkAll elems + uptoBulkAll spare + 1
  | .agg parts => uptoBulkAll parts + 1
  | .iface _ d => uptoBulk d + 1
  | .map entries => uptoBulkEntries entries + 1
  | .held _ => 1
def uptoBulkAll {H : Type} : List (DataW H) → Nat
  | [] => 0
  | d :: r => uptoBulk d + uptoBulkAll r
def uptoBulkEntries {H : Type} : List (Lit × DataW H) → Nat
  | [] => 0
  | x :: r => uptoBulkEntry x + uptoBulkEntries r
def uptoBulkEntry {H : Type} : Lit × DataW H → Nat
  | (.string bytes, d) => bytes.length + uptoBulk d + 1
  | (_, d) => uptoBulk d + 1
 end
def uptoSmall : (H : Type) → List (DataW H) → Bool := fun _ ds => decide (uptoBulkAll ds ≤ 1048576)
def OpenSpec.upto (s : _root_.Go.ChangeSpec) : _root_.Go.OpenSpec := { _root_.Go.OpenSpec.ofChange s with cond := some uptoSmall }

/-- 'erratalaw04.KindsNames', WHERE WHAT IT READS IS OF BULK AT MOST 1048576: true; the input reads as it did. -/
def kindsNamesUptoRow : OpenClaim := { program := "ytkcicddbobpegaadoor", sum := "c8c91f4c1e150fb29fe16b164b3fb0898d11add603620e050d506b6593be3fb7", func := "errata/erratalaw04.KindsNames", spec := "kindsNames", inPlace := ["math.Float64bits"], unfollowed := true, recurses := true, named := ["errata/kinds.rows"], apart := false, laid := [("errata/kinds.rows", laid_errata_kinds_rows)], narrowed := true }
def KindsNamesUptoSaid : Prop := kindsNamesUptoRow.holds Tryd.pinned (OpenSpec.upto kindsNamesSpec)

end Rows
end Go.Proofs.YtkcicddbobpegaaDoor
